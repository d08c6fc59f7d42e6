/- Tallies Growth ImplGrowth LongPlain RoomPlain Longest Room ListPlain Visit MakeNum WordsOf ImplList NextPlain SortedPlain ListedPlain SpecSeek SpecNextR ImplNextR World LawFnReduced, one behind the other. -/
import Derived.Test.YtfkojahoaljiaaaDoorFnReducedA
import Derived.Shelf.Abstract
import Derived.Shelf.RegionOpen
import Derived.WalkKit
import Derived.OwnWalkIn
import Derived.TacticsInMore
import Derived.LoopNIn
import Derived.LoopIn
import Derived.Test.YtfkojahoaljiaaaDoorInts
import Derived.Deep.RegionHeld3
import Derived.Test.YtfkojahoaljiaaaDoorStepsFrom
import Derived.ControlIn
import Derived.Test.YtfkojahoaljiaaaDoorCur
import Derived.Maps.AppendAt
import Derived.Test.YtfkojahoaljiaaaDoorReduced
import Derived.Test.YtfkojahoaljiaaaDoorOrder
import Derived.Test.YtfkojahoaljiaaaDoorApply
import Derived.Test.YtfkojahoaljiaaaDoorMakeWord
import Derived.Test.YtfkojahoaljiaaaDoorOneByte
import Derived.Test.YtfkojahoaljiaaaDoorLess
import Derived.Test.YtfkojahoaljiaaaDoorNextStep
import Derived.Test.YtfkojahoaljiaaaDoorBase
import Derived.Test.YtfkojahoaljiaaaDoorCards
import Derived.Test.YtfkojahoaljiaaaDoorTie
import Derived.Deep.DeepHandedRow
import Derived.Deep.DeepWitnessRowRef
import Derived.Lib.LaidTab
import Derived.Stop.LaidErr
import Derived.OpenVars
namespace Go.Proofs.YtfkojahoaljiaaaDoor
open Go.RowKit Go.Maps Go.Shelf
attribute [local go_sem] Oper.semAt_some

set_option maxHeartbeats 400000 in
theorem tallies_any (gL : Nat) (most : Int) (w : World) :
    Calls Tryd.prog 40 #[.pointer (some ⟨gL, 0, none⟩), .int .i64 most] w fun y w' =>
      y = .returned (.func (.func 58) #[] #[.pointer (some ⟨w.heap.size, 0, none⟩), .pointer (some ⟨w.heap.size + 1, 0, none⟩)]) ∧
      w' = (w.alloc (.cells #[.pointer (some ⟨gL, 0, none⟩)] 47)).alloc (.cells #[.int .i64 most] 3) := by
  go_enter Tryd.func40, Tryd.ntmps40
  go_wp2_with fail
  go_ret
  exact ⟨rfl, rfl⟩

theorem LangS.same {W W' : World} {b0 gL mA k c : Nat} {Q : List E} {F : E → Nat → Option E} (h : LangS W b0 gL mA k c Q F) (hb : ∀ b, b < W.heap.size → W'.heap[b]? = W.heap[b]?) : LangS W' b0 gL mA k c Q F := by
  obtain ⟨⟨A, cap, h1, h2⟩, h3, h4, h5⟩ := h
  refine ⟨⟨A, cap, (hb gL h1.lt).trans h1, h2.1, ?_⟩, h3.same moveK (hb mA (h3.lt moveK)), h4, h5⟩
  rcases h2.2 with h2 | ⟨g, cp, cur, e, hg, hh, r⟩
  · exact Or.inl h2
  · exact Or.inr ⟨g, cp, cur, e, hg, (hb g (Array.getElem?_eq_some_iff.1 hh).1).trans hh, r⟩
theorem Let.same {W W' : World} (h : Let W) (hs : W.heap.size ≤ W'.heap.size) (hb : ∀ b, b < W.heap.size → W'.heap[b]? = W.heap[b]?) : Let W' := by
  have h1 : Let { W' with os := W.os, tape := W.tape, output := W.output } := h.keep (B := W.heap.size) ⟨rfl, rfl, rfl, hs, hb⟩ (Nat.le_refl _)
  exact h1

/-- The blocks that a round over the tallies leaves as they lay. -/
def talD (n0 bl bm : Nat) (B b : Nat) : Prop := b < n0 ∨ b = bl ∨ b = bm ∨ (B ≤ b ∧ b < B + 4)
/-- Which of its two tallies the iterator yields. -/
def two (B g m g' m' : Nat) : Prop := (g = B + 1 ∧ m = B ∧ g' = B + 3 ∧ m' = B + 2) ∨ (g = B + 3 ∧ m = B + 2 ∧ g' = B + 1 ∧ m' = B)
/-- How the world lies when it yields. -/
def talE (l : List R) (k : Nat) (Q : List E) (B i : Nat) (args : Array Value) (W : World) : Prop :=
  ∃ g m g' m', args = #[.int .i64 i, .pointer (some ⟨g, 0, none⟩)] ∧ two B g m g' m' ∧ TalAt W g m 1000 (talF l k Q i) ∧ B + 4 ≤ W.heap.size
theorem talE_keep {l : List R} {k n0 bl bm B i : Nat} {Q : List E} {args : Array Value} {X Y : World} (h : talE l k Q B i args X) (hk : KeepD (talD n0 bl bm B) X Y) : talE l k Q B i args Y := by
  obtain ⟨g, m, g', m', h1, h2, h3, h4⟩ := h
  refine ⟨g, m, g', m', h1, h2, ⟨(hk.block g ?_).trans h3.1, h3.2.same endK (hk.block m ?_)⟩, Nat.le_trans h4 hk.size⟩
  · rcases h2 with h2 | h2 <;> (unfold talD; omega)
  · rcases h2 with h2 | h2 <;> (unfold talD; omega)

theorem TalAt.made (w : World) : TalAt ((w.alloc (.map #[] 0)).alloc (.cells #[.map (some w.heap.size)] 120)) (w.heap.size + 1) w.heap.size 0 (fun _ => none) :=
  ⟨Blk.new2 w _ _ _, (MapOf.made endK w).alloc endK _⟩
set_option maxRecDepth 100000 in
set_option maxHeartbeats 2000000 in
theorem tallies1_tells (m : Nat) (hm : 1 ≤ m) (k : Nat) (l : List R) (b0 gL mA c0 bl bm most : Nat) (Q : List E) (wB w0 : World) (hl : ∀ r ∈ l, r.1.size ≤ 8) (h12 : l.length ≤ 12) (hk : k ≤ 4) (hQ : Ends l k Q) (hlet : Let wB) (hL : LangS wB b0 gL mA k c0 Q (aftQ l k Q))
    (hbB : Below wB.heap.size wB w0) (h1 : Blk w0 bl 47 #[.pointer (some ⟨gL, 0, none⟩)]) (h2 : Blk w0 bm 3 #[.int .i64 most]) (hmost : most ≤ 1000) :
    SeqTells Fence.wide m Tryd.prog 58 #[.pointer (some ⟨bl, 0, none⟩), .pointer (some ⟨bm, 0, none⟩)] (talE l k Q) (talD wB.heap.size bl bm) (most + 1) w0 := by
  intro lp J Jx W hW hJ hY h0
  have HB1 := Lib.hid (h1.below hW h1.lt)
  have HB2 := Lib.hid (h2.below hW h2.lt)
  have hq0 : W.cell? ⟨bl, 0, none⟩ = some (.pointer (some ⟨gL, 0, none⟩)) := HB1.out.cell 0
  have hq1 : W.cell? ⟨bm, 0, none⟩ = some (.int .i64 most) := HB2.out.cell 0
  refine callsIn_of_wp Tryd.func58 rfl trivial ?_ rfl
  simp only [Tryd.ntmps58, List.size_toArray, List.length_cons, List.length_nil, Nat.reduceAdd, Nat.reduceSub, Array.replicate_succ, Array.replicate_zero, List.push_toArray, List.append_toArray, List.nil_append, List.cons_append]
  gi_wp2_with fail
  refine ⟨trivial, (callsIn_wide.2 (newTally_any W)).mono ?_⟩
  rintro y w1 ⟨rfl, hw1⟩
  have hs1 : w1.heap.size = W.heap.size + 2 := by rw [hw1]; simp
  have b1 : Below W.heap.size W w1 := by rw [hw1]; exact bel2 W _ _
  have T1 := TalAt.made W
  rw [← hw1] at T1
  clear hw1
  gi_wp2_with fail
  refine ⟨trivial, (callsIn_wide.2 (newTally_any w1)).mono ?_⟩
  rintro y w2 ⟨rfl, hw2⟩
  have hs2 : w2.heap.size = W.heap.size + 4 := by rw [hw2]; simp; omega
  have b2 : Below w1.heap.size w1 w2 := by rw [hw2]; exact bel2 w1 _ _
  have T2 := TalAt.made w1
  rw [← hw2, hs1] at T2
  have T1' := Lib.hid (T1.below b2 (by omega) (by omega))
  have T2' := Lib.hid T2
  have b3 := b1.trans (b2.mono (by omega))
  have HB1' := Lib.hid (HB1.out.below b3 HB1.out.lt)
  have HB2' := Lib.hid (HB2.out.below b3 HB2.out.lt)
  have hJ2 := Lib.hid (hJ 0 W w2 h0 (own2_below b3))
  have b4 := hbB.trans (hW.mono hbB.size)
  have hsz0 := hbB.size
  have hsz1 := hW.size
  have HF : Hid (∀ b, b < wB.heap.size → w2.heap[b]? = wB.heap[b]?) := fun b hb => (b3.block b (by omega)).trans ((hW.block b (by omega)).trans (hbB.block b hb))
  have hq2 : w2.cell? ⟨bl, 0, none⟩ = some (.pointer (some ⟨gL, 0, none⟩)) := HB1'.out.cell 0
  have HLB := Lib.hid hL
  have HlB := Lib.hid hlet
  have HQ := Lib.hid hQ
  have hQl := hQ.len hl h12
  have Hl := Lib.hid hl
  have H12 := Lib.hid h12
  obtain ⟨⟨A2, cap, hblk, hrow⟩, -, -, -⟩ := (HLB.out.same HF.out)
  have hq3 : w2.cell? ⟨gL, 1, none⟩ = some (.slice A2 Q.length cap) := hblk.cell 1
  rw [hs1]
  clear T1 T2 hw2 b1 b2 b3 HB1 HB2 hq0 hq1 h0 h1 h2 hlet hL hQ hl h12 hblk hbB hW
  gi_wp2_with fail
  clear hq2 hq3
  have hmp := T1'.out.obj
  have HMp := Lib.hid hmp
  clear hmp
  generalize W.heap.size = B at *
  have HT0 : Hid (TalAt w2 (B + 1) B 0 (talOne Q 0)) := by rw [talOne_start]; exact T1'.out
  have Hrow : Hid (∀ W', Turn [B] w2 W' → Own b0 W' (.slice A2 Q.length cap) 2 Q.length (endsC Q)) := fun W' ht => by
    refine Own.of_row (e := 79) ⟨hrow.1, ?_⟩
    rcases hrow.2 with h | ⟨g, cp, cur, e, hg, hh, r⟩
    · exact Or.inl h
    · exact Or.inr ⟨g, cp, cur, e, hg, ht.obj hh (by simpa using Blk.ne_map (W := w2) (t := 79) (cs := cur) hh HMp.out), r⟩
  clear hrow
  gi_loopw [16] (fun i wr => ∃ a : Nat, i = .int .i64 a ∧ a ≤ Q.length ∧ Hid (TalAt wr (B + 1) B a (talOne Q a)) ∧ Hid (Turn [B] w2 wr)) (fun i _ => Q.length - (intOf i).toNat)
  case atStart => exact ⟨0, rfl, Nat.zero_le _, HT0, Turn.refl _ _⟩
  case round =>
    obtain ⟨a, rfl, hal, H1, HT⟩ := hrel
    clear HT0
    have hTs := HT.out.size
    by_cases hlt : a < Q.length
    · have hO := Hrow.out wr HT.out
      obtain ⟨g, off, cc, hv⟩ := hO.formR (by omega)
      obtain ⟨rfl, rfl⟩ : A2 = some ⟨g, off, none⟩ ∧ cap = cc := by injection hv with a _ b; exact ⟨a, b⟩
      clear hv
      obtain ⟨-, hgl, e, he, x0, x1⟩ := hO.endAt hlt
      have hmem : e ∈ Q := List.mem_of_getElem? he
      have hoe : okE e := (HQ.out.good e hmem).lt Hl.out H12.out
      have hno : talOne Q a e = none := by unfold talOne; rw [if_neg (not_mem_take HQ.out.nodup he)]
      have hput : Hid (putT (talOne Q a) e (wrap64 ((talOne Q a e).getD 0 + 1)) = talOne Q (a + 1)) := by
        show _ = _
        rw [hno]
        funext e1
        rw [talOne_step he]
        unfold putT
        have h1 : wrap64 ((none : Option Int).getD 0 + 1) = 1 := by rw [Option.getD_none]; unfold wrap64; omega
        rw [h1]
      have H11 := Lib.hid (H1.out.turn (turn_below (S := []) (bel1 wr (.cells #[.int .i64 e.1, .int .i64 e.2] 79))) (by simp) (by simp))
      have HT1 := Lib.hid (HT.out.trans (turn_below (bel1 wr (.cells #[.int .i64 e.1, .int .i64 e.2] 79))))
      clear hO he hmem hno H1 HT
      gi_wp2_with fail
      clear x0 x1 hgl
      generalize wr.alloc (.cells #[.int .i64 e.1, .int .i64 e.2] 79) = w3 at *
      refine ⟨trivial, (callsIn_wide.2 (add_any (B + 1) B a (talOne Q a) e 1 w3 H11.out hoe (by omega))).mono ?_⟩
      rintro y w4 ⟨⟨vv, rfl⟩, hT4, hA4⟩
      rw [hput.out] at hA4
      have HA4 := Lib.hid hA4
      have HT4 := Lib.hid (HT1.out.trans hT4)
      clear hA4 hT4 H11 HT1
      gi_wp2_with fail
      go_roundw
      case rel => exact ⟨a + 1, by go_num, by omega, HA4, HT4⟩
      case measure => simp [intOf]; omega
    · have hla : a = Q.length := by omega
      have H12' : Hid (TalAt wr (B + 1) B 1000 (talF l k Q 0)) := by
        show TalAt _ _ _ _ _
        rw [← talOne_end, ← hla]
        exact ⟨H1.out.1, H1.out.2.mono endK (by omega)⟩
      subst hla
      have HB1r := Lib.hid (HT.out.blk HB1'.out (by simpa using HB1'.out.ne_map HMp.out))
      have HB2r := Lib.hid (HT.out.blk HB2'.out (by simpa using HB2'.out.ne_map HMp.out))
      have H2r := Lib.hid (T2'.out.turn HT.out (by simp <;> omega) (by simp <;> omega))
      have hJr := Lib.hid (hJ 0 w2 wr hJ2.out ⟨[B], HT.out, fun b hb => by simp at hb; subst hb; exact ⟨Nat.le_refl _, HMp.out⟩⟩)
      have HFr : Hid (∀ b, b < wB.heap.size → wr.heap[b]? = wB.heap[b]?) := fun b hb => (HT.out.block b (by omega) (by simp; omega)).trans (HF.out b hb)
      have hqm : wr.cell? ⟨bm, 0, none⟩ = some (.int .i64 most) := HB2r.out.cell 0
      clear H1 HT Hrow HF HB1' HB2' T2' T1' hJ2 HMp
      gi_wp2_with fail
      clear hqm
      rw [show B + 2 + 1 = B + 3 from rfl]
      gi_loopw [4, 5, 26] (fun v4 v5 i wx => ∃ t g m1 g' m2 : Nat, v4 = .pointer (some ⟨g, 0, none⟩) ∧ v5 = .pointer (some ⟨g', 0, none⟩) ∧ i = .int .i64 t ∧ t ≤ most + 1 ∧ two B g m1 g' m2 ∧ Hid (TalAt wx g m1 1000 (talF l k Q t)) ∧ Hid (TalAt wx g' m2 0 (fun _ => none)) ∧ Hid (Blk wx bl 47 #[.pointer (some ⟨gL, 0, none⟩)]) ∧ Hid (∀ b, b < wB.heap.size → wx.heap[b]? = wB.heap[b]?) ∧ Hid (J t wx) ∧ B + 4 ≤ wx.heap.size) (fun _ _ i _ => most + 1 - (intOf i).toNat)
      case atStart => exact ⟨0, B + 1, B, B + 3, B + 2, rfl, rfl, rfl, Nat.zero_le _, .inl ⟨rfl, rfl, rfl, rfl⟩, H12', H2r, HB1r, HFr, hJr, by omega⟩
      case round =>
        clear H12' H2r HB1r HB2r HFr hJr
        obtain ⟨t, g, m1, g', m2, rfl, rfl, rfl, ht, h2w, H1, H2, HB1, HF, HJ, hsz⟩ := hrel
        by_cases hlt3 : (t : Int) < (most : Int) + 1
        · have hlt2 : t < most + 1 := by omega
          obtain ⟨fn, tmps, assign, body, hy, hR⟩ := hY t #[.int .i64 t, .pointer (some ⟨g, 0, none⟩)] wr HJ.out ⟨g, m1, g', m2, rfl, h2w, H1.out, hsz⟩ hlt2
          gi_wp2_with fail
          refine hR.mono ?_
          rintro y w6 (⟨rfl, hJ6, hk6⟩ | ⟨rfl, hJx6⟩)
          · have hgm : B ≤ g ∧ g < B + 4 ∧ B ≤ m1 ∧ m1 < B + 4 ∧ B ≤ g' ∧ g' < B + 4 ∧ B ≤ m2 ∧ m2 < B + 4 ∧ m1 ≠ m2 ∧ g ≠ m1 ∧ g ≠ m2 ∧ g' ≠ m1 ∧ g' ≠ m2 := by rcases h2w with h | h <;> omega
            obtain ⟨y1, y2, y3, y4, y5, y6, y7, y8, y9, z1, z2, z3, z4⟩ := hgm
            have H16 : TalAt w6 g m1 1000 (talF l k Q t) := ⟨(hk6.block g (by unfold talD; omega)).trans H1.out.1, H1.out.2.same endK (hk6.block m1 (by unfold talD; omega))⟩
            have H26 : TalAt w6 g' m2 0 (fun _ => none) := ⟨(hk6.block g' (by unfold talD; omega)).trans H2.out.1, H2.out.2.same endK (hk6.block m2 (by unfold talD; omega))⟩
            have HB6 : Hid (Blk w6 bl 47 #[.pointer (some ⟨gL, 0, none⟩)]) := (hk6.block bl (.inr (.inl rfl))).trans HB1.out
            have HF6 : Hid (∀ b, b < wB.heap.size → w6.heap[b]? = wB.heap[b]?) := fun b hb => (hk6.block b (.inl hb)).trans (HF.out b hb)
            have hs6 := hk6.size
            have hq6 : w6.cell? ⟨bl, 0, none⟩ = some (.pointer (some ⟨gL, 0, none⟩)) := HB6.out.cell 0
            have hmA : mA < wB.heap.size := HLB.out.map.lt moveK
            have hBw : wB.heap.size ≤ B := by omega
            have hm2 : m2 < w6.heap.size := by omega
            have HL6 := Lib.hid (HLB.out.same HF6.out)
            have HLt : Hid (∀ w', Turn [m2] w6 w' → Let w') := fun w' htn => HlB.out.same (by have := htn.size; omega) (fun b hb => (htn.block b (by omega) (by simp; omega)).trans (HF6.out b hb))
            have H16' := Lib.hid H16
            have H26' := Lib.hid H26
            clear H16 H26 H1 H2 HB1 HF HJ hk6 hy hR
            gi_wp2_with fail
            clear hq6
            refine ⟨trivial, (callsIn_wide.2 (addLonger_any k l b0 gL mA c0 g m1 1000 g' m2 t Q w6 Hl.out H12.out hk HQ.out HLt.out HL6.out H16'.out H26'.out (by omega) y9)).mono ?_⟩
            rintro y w7 ⟨⟨vv, rfl⟩, hT7, hA7⟩
            have hs7 := hT7.size
            have hJ7 := hJ (t + 1) w6 w7 hJ6 ⟨[m2], hT7, fun b hb => by simp at hb; subst hb; exact ⟨y7, H26'.out.obj⟩⟩
            have H17 := Lib.hid (H16'.out.turn hT7 (by simpa using z2) (by simpa using y9))
            have HB7 := Lib.hid (hT7.blk HB6.out (by simpa using HB6.out.ne_map H26'.out.obj))
            have HF7 : Hid (∀ b, b < wB.heap.size → w7.heap[b]? = wB.heap[b]?) := fun b hb => (hT7.block b (by omega) (by simp; omega)).trans (HF6.out b hb)
            have HA7 := Lib.hid hA7
            clear hT7 hA7 hJ6 H16' H26' HB6 HF6 HL6 HLt
            gi_wp2_with fail
            refine ⟨trivial, (callsIn_wide.2 (forget_any g m1 1000 _ w7 H17.out)).mono ?_⟩
            rintro y w8 ⟨⟨vv, rfl⟩, hT8, hA8⟩
            have hs8 := hT8.size
            have hm1 : m1 < w7.heap.size := by omega
            have HJ8 := Lib.hid (hJ (t + 1) w7 w8 hJ7 ⟨[m1], hT8, fun b hb => by simp at hb; subst hb; exact ⟨y3, H17.out.obj⟩⟩)
            have H18 := Lib.hid (HA7.out.turn hT8 (by simpa using z3) (by simpa using Ne.symm y9))
            have HB8 := Lib.hid (hT8.blk HB7.out (by simpa using HB7.out.ne_map H17.out.obj))
            have HF8 : Hid (∀ b, b < wB.heap.size → w8.heap[b]? = wB.heap[b]?) := fun b hb => (hT8.block b (by omega) (by simp; omega)).trans (HF7.out b hb)
            have HA8 := Lib.hid hA8
            clear hT8 hA8 hJ7 H17 HB7 HF7 HA7
            have h2w' : two B g' m2 g m1 := by rcases h2w with ⟨e1, e2, e3, e4⟩ | ⟨e1, e2, e3, e4⟩; exact .inr ⟨e3, e4, e1, e2⟩; exact .inl ⟨e3, e4, e1, e2⟩
            gi_wp2_with fail
            go_roundw
            case rel => exact ⟨t + 1, g', m2, g, m1, rfl, rfl, by go_num, by omega, h2w', H18, HA8, HB8, HF8, HJ8, by omega⟩
            case measure => simp [intOf]; omega
          · gi_wp2_with fail
            refine bodyPost_ret (results_none rfl _ _ _) rfl ?_
            exact ⟨⟨_, rfl⟩, .inr ⟨t, hlt2, hJx6⟩⟩
        · have htm : t = most + 1 := by omega
          have HJ9 := HJ.out
          rw [htm] at HJ9
          have HJ9' := Lib.hid HJ9
          clear HJ9
          gi_wp2_with fail
          go_end0
          exact ⟨⟨_, rfl⟩, .inl HJ9'.out⟩
end Go.Proofs.YtfkojahoaljiaaaDoor

namespace Go.Proofs.YtfkojahoaljiaaaDoor
open Go.RowKit Go.Maps Go.Shelf
attribute [local go_sem] Oper.semAt_some

/-- The numbers for the lengths up to n, without n. -/
def growL (l : List R) (k n : Nat) : List Int := (List.range n).map fun i => wr (countN l k i)
theorem growL_len (l : List R) (k n : Nat) : (growL l k n).length = n := by simp [growL]
theorem growL_step (l : List R) (k n : Nat) : growL l k (n + 1) = growL l k n ++ [wr (countN l k n)] := by simp [growL, List.range_succ]

theorem ownsRow_same {W W' : World} {base : Nat} {e : TypeId} {size n : Nat} {v : Value} {xs : List Value} (h : W.ownsRow base e size v n xs) (hb : ∀ b, base ≤ b → b < W.heap.size → some b = v.ownBlock → W'.heap[b]? = W.heap[b]?) : W'.ownsRow base e size v n xs := by
  refine ⟨h.1, ?_⟩
  rcases h.2 with h2 | ⟨g, cp, cur, e, hg, hh, r⟩
  · exact Or.inl h2
  · exact Or.inr ⟨g, cp, cur, e, hg, (hb g hg (Array.getElem?_eq_some_iff.1 hh).1 (by rw [e]; rfl)).trans hh, r⟩
theorem ownsRow_cells {W : World} {base : Nat} {e : TypeId} {size n : Nat} {v : Value} {xs : List Value} (h : W.ownsRow base e size v n xs) {b : Nat} (hb : some b = v.ownBlock) : ∃ cs, W.heap[b]? = some (.cells cs e (0, 0)) := by
  rcases h.2 with ⟨h2, _⟩ | ⟨g, cp, cur, h2, hg, hh, r⟩
  · rw [h2] at hb; cases hb
  · rw [h2] at hb
    have e' : b = g := by simpa [Value.ownBlock] using hb
    subst e'; exact ⟨_, hh⟩
/-- How growth's world lies between two rounds. -/
def GrowI (l : List R) (k : Nat) (w : World) (i : Nat) (W : World) : Prop :=
  ∃ v, Blk W w.heap.size 31 #[v] ∧ W.ownsRow (w.heap.size + 9) 3 1 v i (ints (growL l k i)) ∧ Below w.heap.size w W
theorem GrowI.own2 {l : List R} {k i : Nat} {w X Y : World} (h : GrowI l k w i X) (ho : Own2 (w.heap.size + 5) X Y) : GrowI l k w i Y := by
  obtain ⟨v, h1, h2, h3⟩ := h
  obtain ⟨S, ht, hS⟩ := ho
  have noM : ∀ j cs t, X.heap[j]? = some (.cells cs t (0, 0)) → j ∉ S := fun j cs t hj hm => by
    obtain ⟨-, es, clock, hb⟩ := hS _ hm
    rw [hj] at hb; cases hb
  refine ⟨v, ht.blk h1 (noM _ _ _ h1), ownsRow_same h2 (fun b _ hb he => ?_), h3.trans (ht.below (fun b hb => by have := (hS b hb).1; omega) h3.size)⟩
  obtain ⟨cs, hc⟩ := ownsRow_cells h2 he
  exact ht.block b hb (noM _ _ _ hc)
theorem GrowI.put {l : List R} {k i : Nat} {w X : World} (h : GrowI l k w i X) {p : Nat} (o : Obj) (hp : w.heap.size < p) (hp2 : p < w.heap.size + 9) : GrowI l k w i (X.putObj p o) := by
  obtain ⟨v, h1, h2, h3⟩ := h
  refine ⟨v, (World.putObj_heap_other (by omega)).trans h1, ownsRow_same h2 (fun b hb _ _ => World.putObj_heap_other (by omega)), ?_⟩
  have hg := grownBy_putObj' X p o
  exact h3.grown hg h3.size (fun r e => by injection e with e; omega)
theorem GrowI.below {l : List R} {k i : Nat} {w X Y : World} (h : GrowI l k w i X) (hb : Below X.heap.size X Y) : GrowI l k w i Y := by
  obtain ⟨v, h1, h2, h3⟩ := h
  exact ⟨v, h1.below hb h1.lt, ownsRow_below h2 hb, h3.trans (hb.mono h3.size)⟩

set_option maxRecDepth 100000 in
set_option maxHeartbeats 2000000 in
theorem growth_any (k : Nat) (l : List R) (b0 gL mA c0 most : Nat) (Q : List E) (w : World) (hl : ∀ r ∈ l, r.1.size ≤ 8) (h12 : l.length ≤ 12) (hk : k ≤ 4) (hQ : Ends l k Q) (hlet : Let w) (hL : LangS w b0 gL mA k c0 Q (aftQ l k Q)) (hmost : most ≤ 1000) :
    Calls Tryd.prog 22 #[.pointer (some ⟨gL, 0, none⟩), .int .i64 most] w fun y w' => ∃ v, y = .returned v ∧ Own w.heap.size w' v 1 (most + 1) (ints (growL l k (most + 1))) ∧ Below w.heap.size w w' := by
  obtain ⟨i0, hi, hz0, hz1, hz2⟩ := info_parts infoInt
  refine (callsIn_wide (n := 6)).1 ?_
  refine callsIn_of_wp_marks Tryd.func22 rfl trivial ?_ rfl
  simp only [Tryd.ntmps22, List.size_toArray, List.length_cons, List.length_nil, Nat.reduceAdd, Nat.reduceSub, Array.replicate_succ, Array.replicate_zero, List.push_toArray, List.append_toArray, List.nil_append, List.cons_append]
  gi_wp2_with fail
  refine ⟨trivial, (callsIn_wide.2 (tallies_any gL most _)).mono ?_⟩
  rintro e w1 ⟨rfl, hw1⟩
  have hsz : w1.heap.size = w.heap.size + 3 := by rw [hw1]; simp
  have R0 : Blk w1 w.heap.size 31 #[.slice none 0 0] := by rw [hw1]; exact ((Blk.new1 w _ _).alloc _).alloc _
  have R1 : Blk w1 (w.heap.size + 1) 47 #[.pointer (some ⟨gL, 0, none⟩)] := by rw [hw1]; have := (Blk.new1 (w.alloc (.cells #[.slice none 0 0] 31)) #[.pointer (some ⟨gL, 0, none⟩)] 47).alloc (.cells #[.int .i64 most] 3); rwa [World.size_alloc] at this
  have R2 : Blk w1 (w.heap.size + 1 + 1) 3 #[.int .i64 most] := by rw [hw1]; have := Blk.new2 (w.alloc (.cells #[.slice none 0 0] 31)) (.cells #[.pointer (some ⟨gL, 0, none⟩)] 47) #[.int .i64 most] 3; rwa [World.size_alloc] at this
  have b1 : Below w.heap.size w w1 := by rw [hw1]; exact bel3 w _ _ _
  clear hw1
  gi_wp2_with fail
  have hS := tallies1_tells 5 (by omega) k l b0 gL mA c0 (w.heap.size + 1) (w.heap.size + 1 + 1) most Q w w1 hl h12 hk hQ hlet hL b1 R1 R2 hmost
  have HQ := Lib.hid hQ
  refine range_tells rfl (by omega) (gf := 58) (lb := #[.pointer (some ⟨w.heap.size + 1, 0, none⟩), .pointer (some ⟨w.heap.size + 1 + 1, 0, none⟩)]) rfl trivial (enters_of Tryd.func58 (by kernel_rfl) rfl)
    hS (Below.refl _ _) (fun B i args X he => by obtain ⟨g, m, g', m', e, -⟩ := he; rw [e]; rfl) (fun B i args X Y he hk => talE_keep he hk) (by unfold talD; omega)
    (GrowI l k w) (fun _ _ _ => False) (fun i X Y h ho => h.own2 (by rwa [hsz] at ho)) (fun i X p o h hp1 hp2 => h.put o (by omega) (by omega)) (fun _ _ _ _ _ h => h.elim)
    (fun o => ⟨.slice none 0 0, (R0.alloc _).alloc _, World.ownsRow_nil _ _ _ _, b1.trans ((bel2 w1 _ _).mono b1.size)⟩)
    (fun args => { tmps := #[.pointer (some ⟨gL, 0, none⟩), .int .i64 most, undef, undef, .slice none 0 0, .pointer (some ⟨w.heap.size, 0, none⟩), undef, args.getD 1 undef, undef, undef, .pointer (some ⟨gL, 0, none⟩), .int .i64 most, .func (.func 58) #[] #[.pointer (some ⟨w.heap.size + 1, 0, none⟩), .pointer (some ⟨w.heap.size + 1 + 1, 0, none⟩)], args.getD 0 undef, args.getD 1 undef, undef, undef, undef, undef, undef, undef, undef, undef, undef, undef, undef], defers := [] })
    ?assign ?body ?done ?stop
  case assign =>
    rintro lp args W K hsa hK
    obtain ⟨x0, x1, rfl⟩ := Go.Joins.array2 hsa
    gi_wp2_with fail
    simpa using hK
  case body =>
    rintro lp t args W ⟨v, hbx, hr, hw⟩ ⟨g, m, g', m', rfl, h2w, hT, hB4⟩ hlt hWs
    have Hbx := Lib.hid hbx
    have Hr := Lib.hid hr
    have hok : okE (0, 0) := ⟨by show 0 < 12; omega, by show 0 < 9; omega⟩
    have hws := hw.size
    have hW9 : w.heap.size + 9 ≤ W.heap.size := by omega
    have HD : Hid (∀ b, talD w.heap.size (w.heap.size + 1) (w.heap.size + 1 + 1) (w.heap.size + 5) b → b < w.heap.size + 9 ∧ b ≠ w.heap.size) := fun b hb => by unfold talD at hb; omega
    clear hbx hr
    gi_wp2_with fail
    refine ⟨trivial, ((callsIn_wide.2 (number_any g m 1000 (talF l k Q t) (0, 0) W hT hok)).inRound lp).mono ?_⟩
    rintro y w3 ⟨rfl, hb3⟩
    rw [talF_zero HQ.out t]
    have Hb3 := Lib.hid hb3
    have Hbx3 := Lib.hid (Hbx.out.below hb3 Hbx.out.lt)
    have Hr3 := Lib.hid (ownsRow_below Hr.out hb3)
    have Hst := Lib.hid (growL_step l k t)
    have hs3 := hb3.size
    have y0 : w3.cell? ⟨w.heap.size, 0, none⟩ = some v := Hbx3.out.cell 0
    generalize wr (countN l k t) = cc at *
    clear hb3 hT
    gi_wp2_with (gi_at_builtin; refine wpListIn_append_own _ rfl _ _ 31 rfl (w.heap.size + 9) 3 i0 (.int .i64 0) 1 8 Tryd.underlying31 hi hz0 hz1 hz2 rfl (by decide) _ _ _ rfl (Hr3.out.alloc _) ⟨w3.heap.size, 0, none⟩ 1 1 [.int .i64 cc] rfl rfl ?c1 ?c2 ?c3 ?c4 ?c5 ?_)
    case c1 =>
      intro j u hj
      match j, hj with
      | 0, hj => simp at hj; subst hj; exact (Blk.new1 w3 _ _).cell 0
    case c2 => intro u hu; simp at hu; subst hu; rfl
    case c3 => unfold maxLen; omega
    case c4 => omega
    case c5 => simp; omega
    intro v' w4 hown hgrow _
    obtain ⟨g9, o9, c9, rfl⟩ := (Own.of_row hown).formR (by omega)
    have hbl : w.heap.size < w3.heap.size := Hbx3.out.lt
    have hne : ∀ b, b < w.heap.size + 9 → some b ≠ v.ownBlock := fun b hb e => by have := ownsRow_ge Hr3.out e; omega
    have h4 : ∀ b, b < w3.heap.size → some b ≠ v.ownBlock → w4.heap[b]? = w3.heap[b]? := fun b h1 h2 => (hgrow.block b (by simp; omega) h2).trans (Below.heap_alloc _ _ _ h1)
    have Hbx4 : Hid (Blk w4 w.heap.size 31 #[v]) := (h4 _ hbl (hne _ (by omega))).trans Hbx3.out
    have z0 : w4.cell? ⟨w.heap.size, 0, none⟩ = some v := Hbx4.out.cell 0
    have zf : w4.frozen? ⟨w.heap.size, 0, none⟩ = false := Hbx4.out.frozen 0
    have H4 := Lib.hid h4
    have Hne := Lib.hid hne
    have Hown := Lib.hid hown
    have hgs : w3.heap.size + 1 ≤ w4.heap.size := by have := hgrow.size; simpa using this
    have Hbw : Hid (Below w.heap.size w w4) := ((hw.trans (Hb3.out.mono hws)).alloc (by omega) _).grown hgrow (by simp; omega) (fun b e => by have := ownsRow_ge Hr3.out e.symm; omega)
    clear hown hgrow h4 hne y0
    gi_wp2_with fail
    have hfar : ∀ b, b ≠ w.heap.size → (w4.setCell ⟨w.heap.size, 0, none⟩ (.slice (some ⟨g9, o9, none⟩) (t + 1) c9)).heap[b]? = w4.heap[b]? := fun b hb => Below.heap_setCell _ _ _ b hb
    have hall : ∀ b, b < w.heap.size + 9 → b ≠ w.heap.size → (w4.setCell ⟨w.heap.size, 0, none⟩ (.slice (some ⟨g9, o9, none⟩) (t + 1) c9)).heap[b]? = W.heap[b]? := fun b h1 h2 =>
      (hfar b h2).trans ((H4.out b (by omega) (Hne.out b h1)).trans (Hb3.out.block b (by omega)))
    refine ⟨hall _ (by omega) (by omega), hall _ (by omega) (by omega), ⟨by simp [World.size_setCell]; omega, fun b hb => ?_⟩, _, Hbx4.out.set_ 0 _, ?_, Hbw.out.setCell (Nat.le_refl _) _⟩
    · have := HD.out b (by rw [hsz] at hb; exact hb)
      exact hall b this.1 this.2
    · rw [Hst.out, show ints (growL l k t ++ [cc]) = ints (growL l k t) ++ [Value.int .i64 cc] by simp [ints]]
      exact ownsRow_same Hown.out (fun b hb _ _ => hfar b (by omega))
  case done =>
    rintro W ⟨v, h2, h3, h4⟩ hK
    have y0 := h2.cell 0
    have hws := h4.size
    have hvf : ∃ A c, v = .slice A (most + 1) c := (Own.of_row h3).form
    obtain ⟨A9, c9, rfl⟩ := hvf
    have hrw : w1.heap.size < W.heap.size := (Array.getElem?_eq_some_iff.1 hK).1
    gi_wp2_with fail
    refine ⟨by simp, .inl ⟨_, _, rfl, run_takeDeferred hK, ?_⟩⟩
    have hW' : Below w.heap.size w (W.putObj w1.heap.size (.deferred none)) := h4.trans (belowK_b (w := w) (Nat.le_refl _) _ w1.heap.size _ _ (by omega) hK rfl rfl)
    refine ⟨.slice A9 (most + 1) c9, ?_, _, rfl, ?_, hW'⟩
    · simp [results, Tryd.f22, go_sem]
    · refine (Own.of_row (ownsRow_same h3 (fun b hb _ _ => ?_))).mono (by omega)
      exact World.putObj_heap_other (by omega)
  case stop => rintro c i W _ h; exact h.elim
end Go.Proofs.YtfkojahoaljiaaaDoor

namespace Go.Proofs.YtfkojahoaljiaaaDoor
open Go.RowKit Go.Maps

/-- May the reduced words of x letters be counted? -/
def canC (k : Int) (l : List R) (x : Int) : Bool := systemOk k l && decide (0 ≤ x ∧ x ≤ 16)
def growS (k : Int) (l : List R) (x : Int) : List Int := if canC k l x then growL l k.toNat (x.toNat + 1) else []
def countR (k : Int) (l : List R) (x : Int) : Int := if canC k l x then wr (countN l k.toNat x.toNat) else -1
theorem growS_len (k : Int) (l : List R) (x : Int) : (growS k l x).length ≤ 17 := by
  unfold growS canC
  split
  · rename_i h
    rw [Bool.and_eq_true, decide_eq_true_eq] at h
    rw [growL_len]; omega
  · simp
theorem growS_no {k : Int} {l : List R} {x : Int} (h : canC k l x = false) : growS k l x = [] := by unfold growS; rw [h]; rfl
theorem growS_yes {k x : Nat} {l : List R} (h : canC k l x = true) : growS k l x = growL l k (x + 1) := by unfold growS; rw [if_pos h]; rfl
theorem countR_no {k : Int} {l : List R} {x : Int} (h : canC k l x = false) : countR k l x = -1 := by unfold countR; rw [h]; rfl
theorem countR_yes {k x : Nat} {l : List R} (h : canC k l x = true) : countR k l x = wr (countN l k x) := by unfold countR; rw [if_pos h]; rfl
/-- What it means. -/
theorem canC_parts {k : Int} {l : List R} {x : Int} (h : canC k l x = true) : ∃ k' x' : Nat, k = k' ∧ x = x' ∧ 1 ≤ k' ∧ k' ≤ 4 ∧ x' ≤ 16 ∧ l.length ≤ 12 ∧ ∀ r ∈ l, r.1.size ≤ 8 ∧ 0 < r.1.size := by
  unfold canC systemOk rulesOk inK at h
  simp only [Bool.and_eq_true, decide_eq_true_eq, List.all_eq_true] at h
  obtain ⟨⟨⟨⟨h1, h2⟩, h3⟩, -⟩, h4⟩ := h
  refine ⟨k.toNat, x.toNat, by omega, by omega, by omega, by omega, by omega, h2, fun r hr => ?_⟩
  have := h3 r hr
  simp only [ruleOk, sidesOk, Bool.and_eq_true, decide_eq_true_eq] at this
  omega

set_option maxRecDepth 100000 in
set_option maxHeartbeats 800000 in
theorem canCount_any (k : Int) (A : Option Addr) (n c B : Nat) (l : List R) (x : Int) (w : World) (h : Own B w (.slice A n c) 2 n (rulesC l)) (hsm : smallR l) (hlet : Let w) :
    Calls Tryd.prog 20 #[.agg #[.int .i64 k, .slice A n c], .int .i64 x] w fun e w' => e = .returned (.bool (canC k l x)) ∧ Below w.heap.size w w' := by
  have HO := Lib.hid h
  have HL := Lib.hid hlet
  clear h hlet
  go_enter Tryd.func20, Tryd.ntmps20
  go_wp2_with fail
  refine (implSystemOk k A n c B l _ (HO.out.below (bel1 w _)) hsm (HL.out.keep (bel1 w _) (Nat.le_refl _))).mono ?_
  rintro e w1 ⟨rfl, hb1⟩
  have b1 := (bel1 w _).trans (hb1.mono (by simp))
  clear hb1
  cases h1 : systemOk k l
  · have HF : Hid (false = canC k l x) := by show _ = _; unfold canC; rw [h1]; rfl
    clear h1
    go_wp2_with fail
    go_ret
    exact ⟨ret_bool HF.out, b1⟩
  · by_cases h0 : 0 ≤ x
    · have HF : Hid (decide (x ≤ 16) = canC k l x) := by show _ = _; unfold canC; rw [h1, Bool.true_and]; exact decide_eq_decide.2 ⟨fun h => ⟨h0, h⟩, fun h => h.2⟩
      clear h1
      go_wp2_with fail
      go_ret
      exact ⟨ret_bool HF.out, b1⟩
    · have HF : Hid (false = canC k l x) := by show _ = _; unfold canC; rw [h1, Bool.true_and]; exact (decide_eq_false (fun h => h0 h.1)).symm
      clear h1
      go_wp2_with fail
      go_ret
      exact ⟨ret_bool HF.out, b1⟩

set_option maxRecDepth 100000 in
set_option maxHeartbeats 800000 in
theorem implGrowthOf (k : Int) (A : Option Addr) (n c B : Nat) (l : List R) (x : Int) (w : World) (h : Own B w (.slice A n c) 2 n (rulesC l)) (hsm : smallR l) (hlet : Let w) :
    Calls Tryd.prog 8 #[.agg #[.int .i64 k, .slice A n c], .int .i64 x] w fun e w' => ∃ v, e = .returned v ∧ Own w.heap.size w' v 1 (growS k l x).length (ints (growS k l x)) ∧ Below w.heap.size w w' := by
  have HO := Lib.hid h
  have HL := Lib.hid hlet
  clear h hlet
  go_enter Tryd.func8, Tryd.ntmps8
  go_wp2_with fail
  refine (canCount_any k A n c B l x _ (HO.out.below (bel1 w _)) hsm (HL.out.keep (bel1 w _) (Nat.le_refl _))).mono ?_
  rintro e w1 ⟨rfl, hb1⟩
  have b1 := (bel1 w _).trans (hb1.mono (by simp))
  have HS1 := Lib.hid ((Blk.new1 w #[.int .i64 k, .slice A n c] 25).below hb1 (by simp))
  clear hb1
  cases h1 : canC k l x
  · have HF := Lib.hid (growS_no h1)
    clear h1
    go_wp2_with fail
    go_ret
    rw [HF.out]
    exact ⟨_, rfl, Own.none_, b1⟩
  · obtain ⟨k', x', rfl, rfl, hk1, hk4, hx, h12, hl⟩ := canC_parts h1
    have HF := Lib.hid (growS_yes h1)
    obtain ⟨s0, s1, -, -, sl⟩ := HS1.out.two
    clear h1
    go_wp2_with fail
    refine (languageOf_any k' A n c B l w1 (HO.out.below b1) (fun r hr => (hl r hr).1) h12 hk4 (HL.out.keep b1 (Nat.le_refl _))).mono ?_
    rintro e w2 ⟨gL, mA, Q, rfl, hL, hQ, hb2⟩
    have b2 := b1.trans (hb2.mono b1.size)
    clear s0 s1 sl
    go_wp2_with fail
    refine (growth_any k' l _ gL mA 1000 x' Q w2 (fun r hr => (hl r hr).1) h12 hk4 hQ (HL.out.keep b2 (Nat.le_refl _)) hL (by omega)).mono ?_
    rintro e w3 ⟨v, rfl, o3, hb3⟩
    have b3 := b2.trans (hb3.mono b2.size)
    have O3 := Lib.hid (o3.mono b2.size)
    clear o3 hb3
    go_wp2_with fail
    go_ret
    rw [HF.out]
    exact ⟨_, rfl, by rw [growL_len]; exact O3.out, b3⟩

theorem growL_get (l : List R) (k n i : Nat) (h : i < n) : (growL l k n)[i]? = some (wr (countN l k i)) := by simp [growL, h]
set_option maxRecDepth 100000 in
set_option maxHeartbeats 800000 in
theorem implCountReduced (k : Int) (A : Option Addr) (n c B : Nat) (l : List R) (x : Int) (w : World) (h : Own B w (.slice A n c) 2 n (rulesC l)) (hsm : smallR l) (hlet : Let w) :
    Calls Tryd.prog 9 #[.agg #[.int .i64 k, .slice A n c], .int .i64 x] w fun e w' => e = .returned (.int .i64 (countR k l x)) ∧ Below w.heap.size w w' := by
  have HO := Lib.hid h
  have HL := Lib.hid hlet
  clear h hlet
  go_enter Tryd.func9, Tryd.ntmps9
  go_wp2_with fail
  refine (canCount_any k A n c B l x _ (HO.out.below (bel1 w _)) hsm (HL.out.keep (bel1 w _) (Nat.le_refl _))).mono ?_
  rintro e w1 ⟨rfl, hb1⟩
  have b1 := (bel1 w _).trans (hb1.mono (by simp))
  have HS1 := Lib.hid ((Blk.new1 w #[.int .i64 k, .slice A n c] 25).below hb1 (by simp))
  clear hb1
  cases h1 : canC k l x
  · have HF := Lib.hid (countR_no h1)
    clear h1
    go_wp2_with fail
    go_ret
    exact ⟨by rw [HF.out]; rfl, b1⟩
  · obtain ⟨k', x', rfl, rfl, hk1, hk4, hx, h12, hl⟩ := canC_parts h1
    have HF := Lib.hid (countR_yes h1)
    obtain ⟨s0, s1, -, -, sl⟩ := HS1.out.two
    clear h1
    go_wp2_with fail
    refine (languageOf_any k' A n c B l w1 (HO.out.below b1) (fun r hr => (hl r hr).1) h12 hk4 (HL.out.keep b1 (Nat.le_refl _))).mono ?_
    rintro e w2 ⟨gL, mA, Q, rfl, hL, hQ, hb2⟩
    have b2 := b1.trans (hb2.mono b1.size)
    clear s0 s1 sl
    go_wp2_with fail
    refine (growth_any k' l _ gL mA 1000 x' Q w2 (fun r hr => (hl r hr).1) h12 hk4 hQ (HL.out.keep b2 (Nat.le_refl _)) hL (by omega)).mono ?_
    rintro e w3 ⟨v, rfl, o3, hb3⟩
    have b3 := b2.trans (hb3.mono b2.size)
    obtain ⟨g, off, cc, rfl⟩ := o3.formR (by omega)
    obtain ⟨g', off', e, -, hgl, hcell⟩ := o3.int (by omega)
    obtain ⟨rfl, rfl⟩ : g = g' ∧ off = off' := by injection e with e; injection e with e1 e2; exact ⟨e1, e2⟩
    obtain ⟨y, hy, x0, -⟩ := hcell x' (by omega)
    rw [growL_get l k' _ x' (by omega)] at hy
    injection hy with hy
    have Hy := Lib.hid hy
    clear o3 hb3 hcell e hy
    go_wp2_with fail
    go_ret
    exact ⟨by rw [HF.out, Hy.out]; rfl, b3⟩
end Go.Proofs.YtfkojahoaljiaaaDoor

namespace Go.Proofs.YtfkojahoaljiaaaDoor
open Go.RowKit

theorem cnt_succ_pos {L : List (List UInt8)} {k n : Nat} {u : List UInt8} : 0 < cnt L k (n + 1) u ↔ ∃ x, x < k ∧ endsW L (u ++ [letC x]) = false ∧ 0 < cnt L k n (u ++ [letC x]) := by
  rw [cnt, sumTo_pos]
  constructor
  · rintro ⟨x, hx, h⟩
    cases he : endsW L (u ++ [letC x])
    · rw [he] at h; exact ⟨x, hx, he, by simpa using h⟩
    · rw [he] at h; simp at h
  · rintro ⟨x, hx, he, h⟩
    refine ⟨x, hx, ?_⟩
    rw [he]; simpa using h
theorem cnt_mono {L : List (List UInt8)} {k : Nat} : ∀ (n : Nat) {u : List UInt8}, 0 < cnt L k (n + 1) u → 0 < cnt L k n u
  | 0, _, _ => Nat.one_pos
  | n + 1, u, h => by
    obtain ⟨x, hx, he, h2⟩ := cnt_succ_pos.1 h
    exact cnt_succ_pos.2 ⟨x, hx, he, cnt_mono n h2⟩
theorem cnt_down {L : List (List UInt8)} {k : Nat} {u : List UInt8} {n : Nat} : ∀ d, 0 < cnt L k (n + d) u → 0 < cnt L k n u
  | 0, h => h
  | d + 1, h => cnt_down d (cnt_mono (n + d) h)
theorem cnt_le {L : List (List UInt8)} {k n m : Nat} {u : List UInt8} (h : n ≤ m) (hp : 0 < cnt L k m u) : 0 < cnt L k n u := cnt_down (m - n) (by rw [show n + (m - n) = m by omega]; exact hp)
/-- d is the greatest number of letters that can follow u, or -1 if there is none. -/
def IsLng (L : List (List UInt8)) (k : Nat) (u : List UInt8) (d : Int) : Prop := (∃ n : Nat, d = n ∧ 0 < cnt L k n u ∧ cnt L k (n + 1) u = 0) ∨ (d = -1 ∧ ∀ n, 0 < cnt L k n u)
theorem IsLng.one {L : List (List UInt8)} {k : Nat} {u : List UInt8} {d e : Int} (h : IsLng L k u d) (h' : IsLng L k u e) : d = e := by
  rcases h with ⟨n, rfl, h1, h2⟩ | ⟨rfl, h1⟩ <;> rcases h' with ⟨m, rfl, k1, k2⟩ | ⟨rfl, k1⟩
  · have a1 : ¬ n + 1 ≤ m := fun hle => by have := cnt_le hle k1; omega
    have a2 : ¬ m + 1 ≤ n := fun hle => by have := cnt_le hle h1; omega
    omega
  · have := k1 (n + 1); omega
  · have := h1 (m + 1); omega
  · rfl
theorem cntTo_pos {l : List R} {k n : Nat} {e : E} : ∀ j, 0 < cntToE l k n e j ↔ ∃ x e', x < j ∧ nxtS l e x = some e' ∧ 0 < cntE l k n e'
  | 0 => by
    constructor
    · intro h; exact absurd h (Nat.lt_irrefl 0)
    · rintro ⟨x, _, hx, _⟩; omega
  | j + 1 => by
    cases hn : nxtS l e j with
    | none =>
      rw [nxt_none k n hn, cntTo_pos j]
      constructor
      · rintro ⟨x, e', hx, h1, h2⟩; exact ⟨x, e', by omega, h1, h2⟩
      · rintro ⟨x, e', hx, h1, h2⟩
        refine ⟨x, e', ?_, h1, h2⟩
        rcases Nat.lt_or_ge x j with h | h
        · exact h
        · have : x = j := by omega
          subst this; rw [hn] at h1; cases h1
    | some e1 =>
      rw [(nxt_some k n hn).1]
      constructor
      · intro h
        rcases Nat.eq_zero_or_pos (cntE l k n e1) with h0 | h0
        · rw [h0, Nat.add_zero] at h
          obtain ⟨x, e', hx, h1, h2⟩ := (cntTo_pos j).1 h
          exact ⟨x, e', by omega, h1, h2⟩
        · exact ⟨j, e1, by omega, hn, h0⟩
      · rintro ⟨x, e', hx, h1, h2⟩
        rcases Nat.lt_or_ge x j with h | h
        · have := (cntTo_pos j).2 ⟨x, e', h, h1, h2⟩; omega
        · have : x = j := by omega
          subst this; rw [hn] at h1; injection h1 with h1; subst h1; omega
theorem cntE_succ_pos {l : List R} {k n : Nat} {e : E} : 0 < cntE l k (n + 1) e ↔ ∃ x e', x < k ∧ nxtS l e x = some e' ∧ 0 < cntE l k n e' := cntTo_pos k
/-- From i on, the same ends can be followed. -/
def Stable (l : List R) (k : Nat) (Q : List E) (i : Nat) : Prop := ∀ e ∈ Q, 0 < cntE l k i e → 0 < cntE l k (i + 1) e
theorem Stable.on {l : List R} {k i : Nat} {Q : List E} (hQ : Ends l k Q) (h : Stable l k Q i) : ∀ d, ∀ e ∈ Q, 0 < cntE l k i e → 0 < cntE l k (i + d) e
  | 0, _, _, hp => hp
  | d + 1, e, he, hp => by
    obtain ⟨x, e', hx, h1, h2⟩ := cntE_succ_pos.1 (h e he hp)
    exact cntE_succ_pos.2 ⟨x, e', hx, h1, Stable.on hQ h d e' (hQ.next e x e' he hx h1) h2⟩
def alive (l : List R) (k : Nat) (Q : List E) (n : Nat) : List E := Q.filter fun e => decide (0 < cntE l k n e)
theorem alive_less {l : List R} {k n : Nat} {Q : List E} (h : ¬ Stable l k Q n) : (alive l k Q (n + 1)).length < (alive l k Q n).length := by
  have he : alive l k Q (n + 1) = (alive l k Q n).filter fun e => decide (0 < cntE l k (n + 1) e) := by
    unfold alive
    rw [List.filter_filter]
    refine List.filter_congr fun e _ => ?_
    by_cases h1 : 0 < cntE l k (n + 1) e
    · rw [decide_eq_true h1, decide_eq_true (cnt_mono n h1)]; rfl
    · rw [decide_eq_false h1, Bool.false_and]
  rw [he, List.length_filter_lt_length_iff_exists]
  obtain ⟨e, h2⟩ := Classical.not_forall.1 h
  obtain ⟨he, h3⟩ := Classical.not_imp.1 h2
  obtain ⟨h4, h5⟩ := Classical.not_imp.1 h3
  exact ⟨e, List.mem_filter.2 ⟨he, decide_eq_true h4⟩, by simpa using h5⟩
theorem stable_or {l : List R} {k : Nat} {Q : List E} : ∀ n, (∃ i, i < n ∧ Stable l k Q i) ∨ (alive l k Q n).length + n ≤ Q.length
  | 0 => .inr (by show _ ≤ _; rw [Nat.add_zero]; exact List.length_filter_le _ _)
  | n + 1 => by
    rcases stable_or (l := l) (k := k) (Q := Q) n with ⟨i, hi, hs⟩ | h
    · exact .inl ⟨i, by omega, hs⟩
    · by_cases hs : Stable l k Q n
      · exact .inl ⟨n, Nat.lt_succ_self n, hs⟩
      · have := alive_less hs
        exact .inr (by omega)
/-- A word with as many letters as there are ends comes to one of them twice. -/
theorem all_pos {l : List R} {k : Nat} {Q : List E} (hQ : Ends l k Q) (h : 0 < countN l k Q.length) : ∀ n, 0 < countN l k n := by
  intro n
  rcases stable_or (l := l) (k := k) (Q := Q) Q.length with ⟨i, hi, hs⟩ | h2
  · have hp : 0 < cntE l k i (0, 0) := cnt_le (Nat.le_of_lt hi) h
    rcases Nat.lt_or_ge n i with hlt | hge
    · exact cnt_le (Nat.le_of_lt hlt) hp
    · have := hs.on hQ (n - i) (0, 0) hQ.zero hp
      rwa [show i + (n - i) = n by omega] at this
  · exfalso
    have hm : (0, 0) ∈ alive l k Q Q.length := List.mem_filter.2 ⟨hQ.zero, decide_eq_true h⟩
    have := List.length_pos_of_mem hm
    omega
/-- What LongestReduced answers. -/
def LongRet (k : Int) (l : List R) (d : Int) : Prop := (systemOk k l = false ∧ d = -1) ∨ (systemOk k l = true ∧ IsLng (lefts l) k.toNat [] d)
theorem LongRet.one {k : Int} {l : List R} {d e : Int} (h : LongRet k l d) (h' : LongRet k l e) : d = e := by
  rcases h with ⟨h1, rfl⟩ | ⟨h1, h2⟩ <;> rcases h' with ⟨k1, rfl⟩ | ⟨k1, k2⟩
  · rfl
  · rw [h1] at k1; cases k1
  · rw [h1] at k1; cases k1
  · exact h2.one k2
theorem systemOk_parts {k : Int} {l : List R} (h : systemOk k l = true) : ∃ k' : Nat, k = k' ∧ 1 ≤ k' ∧ k' ≤ 4 ∧ l.length ≤ 12 ∧ ∀ r ∈ l, r.1.size ≤ 8 ∧ 0 < r.1.size := by
  obtain ⟨k', x', h1, -, h2, h3, -, h4, h5⟩ := canC_parts (x := 0) (show canC k l 0 = true by unfold canC; rw [h]; rfl)
  exact ⟨k', h1, h2, h3, h4, h5⟩
end Go.Proofs.YtfkojahoaljiaaaDoor

namespace Go.Proofs.YtfkojahoaljiaaaDoor
open Go.RowKit

/-- The length of a longest word of at most t letters that can follow e. -/
def roomOf (l : List R) (k : Nat) : Nat → E → Nat
  | 0, _ => 0
  | t + 1, e => if 0 < cntE l k (t + 1) e then t + 1 else roomOf l k t e
theorem roomOf_le (l : List R) (k : Nat) (e : E) : ∀ t, roomOf l k t e ≤ t
  | 0 => Nat.le_refl 0
  | t + 1 => by
    unfold roomOf
    split
    · exact Nat.le_refl _
    · exact Nat.le_succ_of_le (roomOf_le l k e t)
theorem roomOf_iff (l : List R) (k : Nat) (e : E) : ∀ t n, n ≤ t → (n ≤ roomOf l k t e ↔ 0 < cntE l k n e)
  | 0, n, h => by
    have : n = 0 := by omega
    subst this
    exact ⟨fun _ => Nat.one_pos, fun _ => Nat.le_refl _⟩
  | t + 1, n, h => by
    unfold roomOf
    split
    · next hp => exact ⟨fun _ => cnt_le h hp, fun _ => h⟩
    · next hp =>
      by_cases hn : n = t + 1
      · subst hn
        exact ⟨fun h1 => absurd h1 (by have := roomOf_le l k e t; omega), fun h1 => absurd h1 hp⟩
      · exact roomOf_iff l k e t n (by omega)
/-- The words of r more letters behind u, whose end is e, in bytewise order; low tells which beginnings are passed over. -/
def listTo (l : List R) (k : Nat) (low : ByteArray → Bool) : Nat → ByteArray → E → List ByteArray
  | 0, u, _ => [u]
  | r + 1, u, e => (List.range k).flatMap fun j => match nxtS l e j with
    | none => []
    | some e' => if 0 < cntE l k r e' ∧ low (ext1 u j) = false then listTo l k low r (ext1 u j) e' else []
/-- .. with the first j letters. -/
def listAt (l : List R) (k : Nat) (low : ByteArray → Bool) (r : Nat) (u : ByteArray) (e : E) (j : Nat) : List ByteArray := (List.range j).flatMap fun j => match nxtS l e j with
    | none => []
    | some e' => if 0 < cntE l k r e' ∧ low (ext1 u j) = false then listTo l k low r (ext1 u j) e' else []
theorem listTo_succ (l : List R) (k : Nat) (low : ByteArray → Bool) (r : Nat) (u : ByteArray) (e : E) : listTo l k low (r + 1) u e = listAt l k low r u e k := rfl
theorem listAt_none {l : List R} {k r j : Nat} {low : ByteArray → Bool} {u : ByteArray} {e : E} (h : nxtS l e j = none) : listAt l k low r u e (j + 1) = listAt l k low r u e j := by
  unfold listAt
  rw [List.range_succ, List.flatMap_append, List.flatMap_singleton, h, List.append_nil]
theorem listAt_skip {l : List R} {k r j : Nat} {low : ByteArray → Bool} {u : ByteArray} {e e' : E} (h : nxtS l e j = some e') (h2 : ¬ (0 < cntE l k r e' ∧ low (ext1 u j) = false)) : listAt l k low r u e (j + 1) = listAt l k low r u e j := by
  unfold listAt
  rw [List.range_succ, List.flatMap_append, List.flatMap_singleton, h]
  simp only [if_neg h2, List.append_nil]
theorem listAt_take {l : List R} {k r j : Nat} {low : ByteArray → Bool} {u : ByteArray} {e e' : E} (h : nxtS l e j = some e') (h1 : 0 < cntE l k r e') (h2 : low (ext1 u j) = false) : listAt l k low r u e (j + 1) = listAt l k low r u e j ++ listTo l k low r (ext1 u j) e' := by
  unfold listAt
  rw [List.range_succ, List.flatMap_append, List.flatMap_singleton, h]
  simp only [if_pos (And.intro h1 h2)]
/-- Without a bound from below there are as many as are counted. -/
theorem listTo_len (l : List R) (k : Nat) : ∀ (r : Nat) (u : ByteArray) (e : E), (listTo l k (fun _ => false) r u e).length = cntE l k r e
  | 0, _, _ => rfl
  | r + 1, u, e => by
    have h : ∀ j, (listAt l k (fun _ => false) r u e j).length = cntToE l k r e j := by
      intro j
      induction j with
      | zero => rfl
      | succ j ih =>
        cases hn : nxtS l e j with
        | none => rw [listAt_none hn, nxt_none k r hn, ih]
        | some e' =>
          rw [(nxt_some k r hn).1]
          rcases Nat.eq_zero_or_pos (cntE l k r e') with h0 | h0
          · rw [listAt_skip hn (fun h => by omega), ih, h0, Nat.add_zero]
          · rw [listAt_take hn h0 rfl, List.length_append, ih, listTo_len l k r (ext1 u j) e']
    rw [listTo_succ, h k]; rfl
end Go.Proofs.YtfkojahoaljiaaaDoor

namespace Go.Proofs.YtfkojahoaljiaaaDoor
open Go.RowKit Go.Maps Go.Shelf
attribute [local go_sem] Oper.semAt_some

theorem talF_alive {l : List R} {k : Nat} {Q : List E} (h : Ends l k Q) (n : Nat) : (talF l k Q n (0, 0)).isSome = decide (0 < countN l k n) := talF_some h.zero

/-- How longest's world lies between two rounds. -/
def LngI (l : List R) (k : Nat) (w : World) (i : Nat) (W : World) : Prop := Blk W w.heap.size 3 #[.int .i64 0] ∧ Below w.heap.size w W ∧ ∀ j, j < i → 0 < countN l k j
/-- .. behind the last one. -/
def LngX (l : List R) (k : Nat) (w : World) (c : Code) (i : Nat) (W : World) : Prop := c = .ret ∧ Blk W w.heap.size 3 #[.int .i64 ((i : Int) - 1)] ∧ Below w.heap.size w W ∧ countN l k i = 0 ∧ ∀ j, j < i → 0 < countN l k j

theorem own2_blk {B g : Nat} {t : TypeId} {cs : Array Value} {X Y : World} (h : Blk X g t cs) (ho : Own2 B X Y) : Blk Y g t cs := by
  obtain ⟨S, ht, hS⟩ := ho
  refine ht.blk h (fun hm => ?_)
  obtain ⟨-, es, clock, hb⟩ := hS _ hm
  unfold Blk at h
  rw [h] at hb; cases hb
theorem own2_bel {B B0 : Nat} {X Y w : World} (h : Below B0 w X) (hB : B0 ≤ B) (hB2 : B0 ≤ w.heap.size) (ho : Own2 B X Y) : Below B0 w Y := by
  obtain ⟨S, ht, hS⟩ := ho
  exact h.trans (ht.below (fun b hb => by have := (hS b hb).1; omega) (by have := h.size; omega))
theorem put_bel {w X : World} (h : Below w.heap.size w X) {p : Nat} (o : Obj) (hp : w.heap.size ≤ p) : Below w.heap.size w (X.putObj p o) :=
  h.grown (grownBy_putObj' X p o) h.size (fun r e => by injection e with e; omega)
set_option maxRecDepth 100000 in
set_option maxHeartbeats 2000000 in
theorem longest_any (k : Nat) (l : List R) (b0 gL mA c0 : Nat) (Q : List E) (w : World) (hl : ∀ r ∈ l, r.1.size ≤ 8) (h12 : l.length ≤ 12) (hk : k ≤ 4) (hQ : Ends l k Q) (hlet : Let w) (hL : LangS w b0 gL mA k c0 Q (aftQ l k Q)) :
    Calls Tryd.prog 28 #[.pointer (some ⟨gL, 0, none⟩)] w fun y w' => ∃ d : Int, y = .returned (.int .i64 d) ∧ IsLng (lefts l) k [] d ∧ Below w.heap.size w w' := by
  obtain ⟨⟨A2, cap, hblk, -⟩, -, -, -⟩ := id hL
  have hQl := hQ.len hl h12
  have gll := hblk.lt
  have q1 : (w.alloc (.cells #[.int .i64 0] 3)).cell? ⟨gL, 1, none⟩ = some (.slice A2 Q.length cap) := (hblk.alloc _).cell 1
  refine (callsIn_wide (n := 6)).1 ?_
  refine callsIn_of_wp_marks Tryd.func28 rfl trivial ?_ rfl
  simp only [Tryd.ntmps28, List.size_toArray, List.length_cons, List.length_nil, Nat.reduceAdd, Nat.reduceSub, Array.replicate_succ, Array.replicate_zero, List.push_toArray, List.append_toArray, List.nil_append, List.cons_append]
  gi_wp2_with fail
  refine ⟨trivial, (callsIn_wide.2 (tallies_any gL Q.length _)).mono ?_⟩
  rintro e w1 ⟨rfl, hw1⟩
  have hsz : w1.heap.size = w.heap.size + 3 := by rw [hw1]; simp
  have R0 : Blk w1 w.heap.size 3 #[.int .i64 0] := by rw [hw1]; exact ((Blk.new1 w _ _).alloc _).alloc _
  have R1 : Blk w1 (w.heap.size + 1) 47 #[.pointer (some ⟨gL, 0, none⟩)] := by rw [hw1]; have := (Blk.new1 (w.alloc (.cells #[.int .i64 0] 3)) #[.pointer (some ⟨gL, 0, none⟩)] 47).alloc (.cells #[.int .i64 Q.length] 3); rwa [World.size_alloc] at this
  have R2 : Blk w1 (w.heap.size + 1 + 1) 3 #[.int .i64 Q.length] := by rw [hw1]; have := Blk.new2 (w.alloc (.cells #[.int .i64 0] 3)) (.cells #[.pointer (some ⟨gL, 0, none⟩)] 47) #[.int .i64 Q.length] 3; rwa [World.size_alloc] at this
  have b1 : Below w.heap.size w w1 := by rw [hw1]; exact bel3 w _ _ _
  have hS := tallies1_tells 5 (by omega) k l b0 gL mA c0 (w.heap.size + 1) (w.heap.size + 1 + 1) Q.length Q w w1 hl h12 hk hQ hlet hL b1 R1 R2 (by omega)
  have HQ := Lib.hid hQ
  clear hw1 q1 hblk
  gi_wp2_with fail
  refine range_tells rfl (by omega) (gf := 58) (lb := #[.pointer (some ⟨w.heap.size + 1, 0, none⟩), .pointer (some ⟨w.heap.size + 1 + 1, 0, none⟩)]) rfl trivial (enters_of Tryd.func58 (by kernel_rfl) rfl)
    hS (Below.refl _ _) (fun B i args X he => by obtain ⟨g, m, g', m', e, -⟩ := he; rw [e]; rfl) (fun B i args X Y he hk => talE_keep he hk) (by unfold talD; omega)
    (LngI l k w) (LngX l k w) (fun i X Y h ho => ⟨own2_blk h.1 ho, own2_bel h.2.1 (by omega) (Nat.le_refl _) ho, h.2.2⟩)
    (fun i X p o h hp1 hp2 => ⟨(World.putObj_heap_other (by omega)).trans h.1, put_bel h.2.1 o (by omega), h.2.2⟩) (fun c i X p o h hp1 hp2 => ⟨h.1, (World.putObj_heap_other (by omega)).trans h.2.1, put_bel h.2.2.1 o (by omega), h.2.2.2⟩)
    (fun o => ⟨(R0.alloc _).alloc _, b1.trans ((bel2 w1 _ _).mono b1.size), fun j hj => by omega⟩)
    (fun args => { tmps := #[.pointer (some ⟨gL, 0, none⟩), undef, .pointer (some ⟨w.heap.size, 0, none⟩), args.getD 0 undef, args.getD 1 undef, undef, undef, .pointer (some ⟨gL, 0, none⟩), .pointer (some ⟨gL, 0, none⟩), .pointer (some ⟨gL, 0, none⟩), .pointer (some ⟨gL, 1, none⟩), .slice A2 Q.length cap, .int .i64 Q.length, .func (.func 58) #[] #[.pointer (some ⟨w.heap.size + 1, 0, none⟩), .pointer (some ⟨w.heap.size + 1 + 1, 0, none⟩)], args.getD 0 undef, args.getD 1 undef, undef, undef, undef, undef, undef, undef, undef, undef, undef, undef], defers := [] })
    ?assign ?body ?done ?stop
  case assign =>
    rintro lp args W K hsa hK
    obtain ⟨x0, x1, rfl⟩ := Go.Joins.array2 hsa
    gi_wp2_with fail
    simpa using hK
  case body =>
    rintro lp t args W ⟨hb, hw, hpos⟩ ⟨g, m, g', m', rfl, h2w, hT, hB4⟩ hlt hWs
    have Hbx := Lib.hid hb
    have hok : okE (0, 0) := ⟨by show 0 < 12; omega, by show 0 < 9; omega⟩
    have hws := hw.size
    have hbl : w.heap.size < W.heap.size := hb.lt
    have HD : Hid (∀ b, talD w.heap.size (w.heap.size + 1) (w.heap.size + 1 + 1) (w.heap.size + 5) b → b < w.heap.size + 9 ∧ b ≠ w.heap.size) := fun b hb => by unfold talD at hb; omega
    have Hpos := Lib.hid hpos
    have hW9 : w.heap.size + 9 ≤ W.heap.size := by omega
    clear hb hpos
    gi_wp2_with fail
    refine ⟨trivial, ((callsIn_wide.2 (number_any g m 1000 (talF l k Q t) (0, 0) W hT hok)).inRound lp).mono ?_⟩
    rintro y w3 ⟨rfl, hb3⟩
    rw [talF_alive HQ.out t]
    have Hb3 := Lib.hid hb3
    have Hbx3 := Lib.hid (Hbx.out.below hb3 hbl)
    have hs3 := hb3.size
    have y0 : w3.cell? ⟨w.heap.size, 0, none⟩ = some (.int .i64 0) := Hbx3.out.cell 0
    have yf : w3.frozen? ⟨w.heap.size, 0, none⟩ = false := Hbx3.out.frozen 0
    clear hb3 hT
    by_cases hc : 0 < countN l k t
    · rw [decide_eq_true hc]
      have Hc := Lib.hid hc
      clear hc
      gi_wp2_with fail
      refine ⟨Hb3.out.block _ (by omega), Hb3.out.block _ (by omega), ⟨hs3, fun b hb => Hb3.out.block b (by have := HD.out b (by rw [hsz] at hb; exact hb); omega)⟩, Hbx3.out, hw.trans (Hb3.out.mono hws), fun j hj => ?_⟩
      by_cases e : j = t
      · subst e; exact Hc.out
      · exact Hpos.out j (by omega)
    · have Hc : Hid (countN l k t = 0) := Nat.eq_zero_of_not_pos hc
      have ht0 : 1 ≤ t := by
        rcases Nat.eq_zero_or_pos t with h0 | h0
        · subst h0; exact absurd (Nat.one_pos : 0 < countN l k 0) hc
        · exact h0
      rw [decide_eq_false hc]
      clear hc
      gi_wp2_with fail
      have hfar : ∀ b, b ≠ w.heap.size → (w3.setCell ⟨w.heap.size, 0, none⟩ (.int .i64 ((t : Int) - 1))).heap[b]? = w3.heap[b]? := fun b hb => Below.heap_setCell _ _ _ b hb
      refine ⟨(hfar _ (by omega)).trans (Hb3.out.block _ (by omega)), (hfar _ (by omega)).trans (Hb3.out.block _ (by omega)), rfl, Hbx3.out.set_ 0 _, (hw.trans (Hb3.out.mono hws)).setCell (Nat.le_refl _) _, Hc.out, Hpos.out⟩
  case done =>
    rintro W ⟨h1, h2, h3⟩ hK
    have y0 : W.cell? ⟨w.heap.size, 0, none⟩ = some (.int .i64 0) := h1.cell 0
    have yf : W.frozen? ⟨w.heap.size, 0, none⟩ = false := h1.frozen 0
    have hrw : w1.heap.size < W.heap.size := (Array.getElem?_eq_some_iff.1 hK).1
    have hws := h2.size
    gi_wp2_with fail
    have hK' : (W.setCell ⟨w.heap.size, 0, none⟩ (.int .i64 (-1))).heap[w1.heap.size]? = some (.deferred (some [])) := (Below.heap_setCell W ⟨w.heap.size, 0, none⟩ _ w1.heap.size (by show w1.heap.size ≠ w.heap.size; omega)).trans hK
    refine ⟨by simp, .inl ⟨_, _, rfl, run_takeDeferred hK', ?_⟩⟩
    have hb' : Blk ((W.setCell ⟨w.heap.size, 0, none⟩ (.int .i64 (-1))).putObj w1.heap.size (.deferred none)) w.heap.size 3 #[.int .i64 (-1)] := (World.putObj_heap_other (by omega)).trans (h1.set_ 0 (.int .i64 (-1)))
    have c0 := hb'.cell 0
    refine ⟨.int .i64 (-1), ?_, -1, rfl, .inr ⟨rfl, fun n => ?_⟩, put_bel (h2.setCell (p := ⟨w.heap.size, 0, none⟩) (Nat.le_refl _) _) _ (by omega)⟩
    · simp [results, Tryd.f28, go_sem, c0]
    · exact all_pos HQ.out (h3 Q.length (by omega)) n
  case stop =>
    rintro c i W hi ⟨rfl, h1, h2, h3, h4⟩ hK
    have hrw : w1.heap.size < W.heap.size := (Array.getElem?_eq_some_iff.1 hK).1
    have hws := h2.size
    have hi0 : 1 ≤ i := by
      rcases Nat.eq_zero_or_pos i with h0 | h0
      · subst h0; exact absurd h3 (by show ¬ (1 : Nat) = 0; omega)
      · exact h0
    gi_wp2_with fail
    refine ⟨by simp, .inl ⟨_, _, rfl, run_takeDeferred hK, ?_⟩⟩
    have hb' : Blk (W.putObj w1.heap.size (.deferred none)) w.heap.size 3 #[.int .i64 ((i : Int) - 1)] := (World.putObj_heap_other (by omega)).trans h1
    have c0 := hb'.cell 0
    refine ⟨.int .i64 ((i : Int) - 1), ?_, (i : Int) - 1, rfl, .inl ⟨i - 1, by omega, h4 (i - 1) (by omega), ?_⟩, put_bel h2 _ (by omega)⟩
    · simp [results, Tryd.f28, go_sem, c0]
    · rw [show i - 1 + 1 = i by omega]; exact h3
end Go.Proofs.YtfkojahoaljiaaaDoor

namespace Go.Proofs.YtfkojahoaljiaaaDoor
open Go.RowKit Go.Maps Go.Shelf
attribute [local go_sem] Oper.semAt_some

/-- The rooms behind t rounds; .. and in the next one behind the first a ends. -/
def roomM (l : List R) (k : Nat) (Q : List E) (t : Nat) (e : E) : Option Value := if e ∈ Q ∧ 0 < t then some (.int .i64 (roomOf l k (t - 1) e)) else none
def roomA (l : List R) (k : Nat) (Q : List E) (t a : Nat) (e : E) : Option Value := if e ∈ Q.take a then roomM l k Q (t + 1) e else roomM l k Q t e
theorem roomA_start (l : List R) (k : Nat) (Q : List E) (t : Nat) : roomA l k Q t 0 = roomM l k Q t := by
  funext e; unfold roomA; rw [if_neg (by simp)]
theorem roomA_done (l : List R) (k : Nat) (Q : List E) (t : Nat) : roomA l k Q t Q.length = roomM l k Q (t + 1) := by
  funext e; unfold roomA
  rw [List.take_length]
  by_cases h : e ∈ Q
  · rw [if_pos h]
  · rw [if_neg h]; unfold roomM; rw [if_neg (fun h1 => h h1.1), if_neg (fun h1 => h h1.1)]
theorem roomM_none (l : List R) (k : Nat) (Q : List E) : roomM l k Q 0 = fun _ => none := by
  funext e; unfold roomM; rw [if_neg (by omega)]

theorem roomA_put {l : List R} {k t a : Nat} {Q : List E} {e : E} (_hd : Q.Nodup) (he : Q[a]? = some e) (hp : 0 < cntE l k t e) : putF (roomA l k Q t a) e (.int .i64 t) = roomA l k Q t (a + 1) := by
  funext f
  unfold putF roomA
  by_cases hf : f = e
  · subst hf
    rw [if_pos rfl, if_pos ((take_mem_succ he).2 (.inr rfl))]
    unfold roomM
    rw [if_pos ⟨List.mem_of_getElem? he, Nat.succ_pos t⟩]
    have : roomOf l k (t + 1 - 1) f = t := by
      have h1 := (roomOf_iff l k f t t (Nat.le_refl t)).2 hp
      have h2 := roomOf_le l k f t
      rw [Nat.add_sub_cancel]; omega
    rw [this]
  · rw [if_neg hf]
    by_cases h1 : f ∈ Q.take a
    · rw [if_pos h1, if_pos ((take_mem_succ he).2 (.inl h1))]
    · rw [if_neg h1, if_neg (fun h2 => ((take_mem_succ he).1 h2).elim h1 hf)]
theorem roomA_skip {l : List R} {k t a : Nat} {Q : List E} {e : E} (hd : Q.Nodup) (he : Q[a]? = some e) (hp : ¬ 0 < cntE l k t e) : roomA l k Q t (a + 1) = roomA l k Q t a := by
  funext f
  unfold roomA
  by_cases hf : f = e
  · subst hf
    rw [if_pos ((take_mem_succ he).2 (.inr rfl)), if_neg (not_mem_take hd he)]
    unfold roomM
    rcases Nat.eq_zero_or_pos t with h0 | h0
    · subst h0; exact absurd (Nat.one_pos : 0 < cntE l k 0 f) hp
    · rw [if_pos ⟨List.mem_of_getElem? he, Nat.succ_pos t⟩, if_pos ⟨List.mem_of_getElem? he, h0⟩]
      obtain ⟨s, rfl⟩ : ∃ s, t = s + 1 := ⟨t - 1, by omega⟩
      rw [Nat.add_sub_cancel, Nat.add_sub_cancel, roomOf, if_neg hp]
  · by_cases h1 : f ∈ Q.take a
    · rw [if_pos h1, if_pos ((take_mem_succ he).2 (.inl h1))]
    · rw [if_neg h1, if_neg (fun h2 => ((take_mem_succ he).1 h2).elim h1 hf)]
/-- How room's world lies between two rounds. -/
def RoomI (l : List R) (k gL : Nat) (Q : List E) (w : World) (t : Nat) (W : World) : Prop :=
  Blk W w.heap.size 47 #[.pointer (some ⟨gL, 0, none⟩)] ∧ Blk W (w.heap.size + 2) 92 #[.map (some (w.heap.size + 1))] ∧ MapOf endK W (w.heap.size + 1) (t * 108) (roomM l k Q t) ∧ Below w.heap.size w W
theorem own2_map {B g c : Nat} {F : E → Option Value} {X Y : World} (h : MapOf endK X g c F) (hg : g < B) (ho : Own2 B X Y) : MapOf endK Y g c F := by
  obtain ⟨S, ht, hS⟩ := ho
  exact h.same endK (ht.block g (h.lt endK) (fun hm => by have := (hS g hm).1; omega))

set_option maxRecDepth 100000 in
set_option maxHeartbeats 2000000 in
theorem room_any (k : Nat) (l : List R) (b0 gL mA c0 most : Nat) (Q : List E) (w : World) (hl : ∀ r ∈ l, r.1.size ≤ 8) (h12 : l.length ≤ 12) (hk : k ≤ 4) (hQ : Ends l k Q) (hlet : Let w) (hL : LangS w b0 gL mA k c0 Q (aftQ l k Q)) (hmost : most ≤ 1000) :
    Calls Tryd.prog 42 #[.pointer (some ⟨gL, 0, none⟩), .int .i64 most] w fun y w' => ∃ g, y = .returned (.map (some g)) ∧ w.heap.size ≤ g ∧ MapOf endK w' g 108108 (roomM l k Q (most + 1)) ∧ Below w.heap.size w w' := by
  have hmm := @run_makeMap Tryd.prog
  refine (callsIn_wide (n := 6)).1 ?_
  refine callsIn_of_wp_marks Tryd.func42 rfl trivial ?_ rfl
  simp only [Tryd.ntmps42, List.size_toArray, List.length_cons, List.length_nil, Nat.reduceAdd, Nat.reduceSub, Array.replicate_succ, Array.replicate_zero, List.push_toArray, List.append_toArray, List.nil_append, List.cons_append]
  gi_wp2_with fail
  refine ⟨trivial, (callsIn_wide.2 (tallies_any gL most _)).mono ?_⟩
  rintro e w1 ⟨rfl, hw1⟩
  have hsz : w1.heap.size = w.heap.size + 5 := by rw [hw1]; simp
  have R0 : Blk w1 w.heap.size 47 #[.pointer (some ⟨gL, 0, none⟩)] := by rw [hw1]; exact ((((Blk.new1 w _ _).alloc _).alloc _).alloc _).alloc _
  have M0 : MapOf endK w1 (w.heap.size + 1) 0 (roomM l k Q 0) := by
    rw [hw1, roomM_none]
    have := ((((MapOf.made endK (w.alloc (.cells #[.pointer (some ⟨gL, 0, none⟩)] 47))).alloc endK (.cells #[.map (some (w.heap.size + 1))] 92)).alloc endK (.cells #[.pointer (some ⟨gL, 0, none⟩)] 47)).alloc endK (.cells #[.int .i64 most] 3))
    rwa [World.size_alloc] at this
  have R2 : Blk w1 (w.heap.size + 2) 92 #[.map (some (w.heap.size + 1))] := by
    rw [hw1]
    have := ((Blk.new2 (w.alloc (.cells #[.pointer (some ⟨gL, 0, none⟩)] 47)) (.map #[] 0) #[.map (some (w.heap.size + 1))] 92).alloc (.cells #[.pointer (some ⟨gL, 0, none⟩)] 47)).alloc (.cells #[.int .i64 most] 3)
    rwa [World.size_alloc] at this
  have R3 : Blk w1 (w.heap.size + 3) 47 #[.pointer (some ⟨gL, 0, none⟩)] := by
    rw [hw1]
    have := (Blk.new3 (w.alloc (.cells #[.pointer (some ⟨gL, 0, none⟩)] 47)) (.map #[] 0) (.cells #[.map (some (w.heap.size + 1))] 92) #[.pointer (some ⟨gL, 0, none⟩)] 47).alloc (.cells #[.int .i64 most] 3)
    rwa [World.size_alloc] at this
  have R4 : Blk w1 (w.heap.size + 4) 3 #[.int .i64 most] := by
    rw [hw1]
    have := Blk.new1 ((((w.alloc (.cells #[.pointer (some ⟨gL, 0, none⟩)] 47)).alloc (.map #[] 0)).alloc (.cells #[.map (some (w.heap.size + 1))] 92)).alloc (.cells #[.pointer (some ⟨gL, 0, none⟩)] 47)) #[.int .i64 most] 3
    simpa using this
  have b1 : Below w.heap.size w w1 := by rw [hw1]; exact ((bel3 w _ _ _).alloc (by simp; omega) _).alloc (by simp; omega) _
  have HQ := Lib.hid hQ
  have hS := tallies1_tells 5 (by omega) k l b0 gL mA c0 (w.heap.size + 3) (w.heap.size + 4) most Q w w1 hl h12 hk hQ hlet hL b1 R3 R4 hmost
  have HLs := Lib.hid hL
  clear hw1 hmm
  gi_wp2_with fail
  refine range_tells rfl (by omega) (gf := 58) (lb := #[.pointer (some ⟨w.heap.size + 3, 0, none⟩), .pointer (some ⟨w.heap.size + 4, 0, none⟩)]) rfl trivial (enters_of Tryd.func58 (by kernel_rfl) rfl)
    hS (Below.refl _ _) (fun B i args X he => by obtain ⟨g, m, g', m', e, -⟩ := he; rw [e]; rfl) (fun B i args X Y he hk => talE_keep he hk) (by unfold talD; omega)
    (RoomI l k gL Q w) (fun _ _ _ => False) (fun i X Y h ho => ⟨own2_blk h.1 ho, own2_blk h.2.1 ho, own2_map h.2.2.1 (by omega) ho, own2_bel h.2.2.2 (by omega) (Nat.le_refl _) ho⟩)
    (fun i X p o h hp1 hp2 => ⟨(World.putObj_heap_other (by omega)).trans h.1, (World.putObj_heap_other (by omega)).trans h.2.1, h.2.2.1.same endK (World.putObj_heap_other (by omega)), put_bel h.2.2.2 o (by omega)⟩) (fun _ _ _ _ _ h => h.elim)
    (fun o => ⟨(R0.alloc _).alloc _, (R2.alloc _).alloc _, by rw [Nat.zero_mul]; exact (M0.alloc endK _).alloc endK _, b1.trans ((bel2 w1 _ _).mono b1.size)⟩)
    (fun args => { tmps := #[.pointer (some ⟨gL, 0, none⟩), .int .i64 most, .pointer (some ⟨w.heap.size, 0, none⟩), undef, .map none, .pointer (some ⟨w.heap.size + 1 + 1, 0, none⟩), args.getD 0 undef, args.getD 1 undef, undef, undef, undef, undef, .map (some (w.heap.size + 1)), .pointer (some ⟨gL, 0, none⟩), .int .i64 most, .func (.func 58) #[] #[.pointer (some ⟨w.heap.size + 1 + 1 + 1, 0, none⟩), .pointer (some ⟨w.heap.size + 1 + 1 + 1 + 1, 0, none⟩)], args.getD 0 undef, args.getD 1 undef, undef, undef, undef, undef, undef, undef, undef, undef, undef, undef, undef, undef, undef, undef, undef, undef, undef, undef, undef, undef, undef], defers := [] })
    ?assign ?body ?done ?stop
  case assign =>
    rintro lp args W K hsa hK
    obtain ⟨x0, x1, rfl⟩ := Go.Joins.array2 hsa
    gi_wp2_with fail
    simpa using hK
  case body =>
    rintro lp t args W ⟨hA, hB, hM, hw⟩ ⟨g, m, g', m', rfl, h2w, hT, hB4⟩ hlt hWs
    have HA := Lib.hid hA
    have HB := Lib.hid hB
    have HT := Lib.hid hT
    have hws := hw.size
    have hW9 : w.heap.size + 11 ≤ W.heap.size := by omega
    have HD : Hid (∀ b, talD w.heap.size (w.heap.size + 3) (w.heap.size + 4) (w.heap.size + 7) b → b < w.heap.size + 11 ∧ b ≠ w.heap.size + 1) := fun b hb => by unfold talD at hb; omega
    have hgm : g ≠ w.heap.size + 1 ∧ m ≠ w.heap.size + 1 ∧ g < W.heap.size := by
      unfold two at h2w
      omega
    have hW := HLs.out.below hw
    obtain ⟨⟨A2, cap, hblk, hrow⟩, -, -, -⟩ := hW
    have q1 : W.cell? ⟨gL, 1, none⟩ = some (.slice A2 Q.length cap) := hblk.cell 1
    have gll := hblk.lt
    have q0 := hA.cell 0
    have hl0 := hA.lt
    have HMp := Lib.hid (hM.obj endK)
    have Hrow : Hid (∀ W', Turn [w.heap.size + 1] W W' → Own b0 W' (.slice A2 Q.length cap) 2 Q.length (endsC Q)) := fun W' ht => by
      refine Own.of_row (e := 79) ⟨hrow.1, ?_⟩
      rcases hrow.2 with h | ⟨g, cp, cur, e, hg, hh, r⟩
      · exact Or.inl h
      · exact Or.inr ⟨g, cp, cur, e, hg, ht.obj hh (by simpa using Blk.ne_map (W := W) (t := 79) (cs := cur) hh HMp.out), r⟩
    have HM0 : Hid (MapOf endK W (w.heap.size + 1) (t * 108 + 0) (roomA l k Q t 0)) := by rw [roomA_start]; exact hM
    have hQl := hQ.len hl h12
    have hQk : t * 108 ≤ 108108 := by omega
    clear hA hB hM hT hblk hrow h2w
    gi_wp2_with fail
    clear q1 q0
    gi_loopw [23] (fun i wx => ∃ a : Nat, i = .int .i64 a ∧ a ≤ Q.length ∧ Hid (MapOf endK wx (w.heap.size + 1) (t * 108 + a) (roomA l k Q t a)) ∧ Hid (Turn [w.heap.size + 1] W wx)) (fun i _ => Q.length - (intOf i).toNat)
    case atStart => exact ⟨0, rfl, Nat.zero_le _, HM0, Turn.refl _ _⟩
    case round =>
      clear HM0
      obtain ⟨a, rfl, hal, HMa, HTu⟩ := hrel
      have hTs := HTu.out.size
      by_cases hlq : a < Q.length
      · have hO := Hrow.out wr HTu.out
        obtain ⟨g1, off, cc, hv⟩ := hO.formR (by omega)
        obtain ⟨rfl, rfl⟩ : A2 = some ⟨g1, off, none⟩ ∧ cap = cc := by injection hv with a _ b; exact ⟨a, b⟩
        clear hv
        obtain ⟨-, hgl, e, he, x0, x1⟩ := hO.endAt hlq
        have hmem : e ∈ Q := List.mem_of_getElem? he
        have hoe : okE e := (HQ.out.good e hmem).lt hl h12
        have He := Lib.hid he
        have Hmem := Lib.hid hmem
        have HTX := Lib.hid (HTu.out.trans (turn_below (bel1 wr (.cells #[.int .i64 e.1, .int .i64 e.2] 79))))
        have HTal := Lib.hid (HT.out.turn HTX.out (by simp; omega) (by simp; omega))
        have HMX := Lib.hid (HMa.out.alloc endK (.cells #[.int .i64 e.1, .int .i64 e.2] 79))
        have HE := Lib.hid (Blk.new1 wr #[.int .i64 e.1, .int .i64 e.2] 79)
        have hbw : w.heap.size + 1 < wr.heap.size := HMa.out.lt endK
        clear hO he hmem HMa HTu
        gi_wp2_with fail
        clear x0 x1 hgl
        obtain ⟨X, hX⟩ : ∃ X, X = wr.alloc (.cells #[.int .i64 e.1, .int .i64 e.2] 79) := ⟨_, rfl⟩
        have hXs : X.heap.size = wr.heap.size + 1 := by rw [hX]; simp
        rw [← hX] at HTX HTal HMX HE ⊢
        clear hX
        refine ⟨trivial, ((callsIn_wide.2 (number_any g m 1000 (talF l k Q t) e X HTal.out hoe)).inRound lp).mono ?_⟩
        rintro y w3 ⟨rfl, hb3⟩
        rw [talF_some Hmem.out]
        have HT3 := Lib.hid (HTX.out.trans (turn_below hb3))
        have HM3 := Lib.hid (HMX.out.below endK hb3 (HMX.out.lt endK))
        have HE3 := Lib.hid (HE.out.below hb3 (by omega))
        have hs3 := hb3.size
        clear hb3 HTX HTal HMX HE
        by_cases hc : 0 < cntE l k t e
        · have hpt := roomA_put HQ.out.nodup He.out hc
          obtain ⟨W6, hput, hM6, hg6⟩ := HM3.out.put endK (mt := 92) (et := 3) Tryd.underlying92 (by unfold maxLen; omega) (x := e) hoe (.int .i64 t)
          rw [hpt] at hM6
          change Sem.run _ (Instr.mapUpdate _ _ (.agg #[.int .i64 e.1, .int .i64 e.2]) (.int .i64 t)) _ = _ at hput
          have HM6 : Hid (MapOf endK W6 (w.heap.size + 1) (t * 108 + (a + 1)) (roomA l k Q t (a + 1))) := hM6
          have HT6 := Lib.hid (HT3.out.trans (turn_grown hg6 (List.mem_singleton.2 rfl)))
          have e0 : w3.cell? ⟨wr.heap.size, 0, none⟩ = some (.int .i64 e.1) := HE3.out.cell 0
          have e1 : w3.cell? ⟨wr.heap.size, 1, none⟩ = some (.int .i64 e.2) := HE3.out.cell 1
          have r0 : w3.cell? ⟨w.heap.size + 1 + 1, 0, none⟩ = some (.map (some (w.heap.size + 1))) := (HT3.out.blk HB.out (by simp)).cell 0
          rw [decide_eq_true hc]
          clear hc hpt hM6 hg6 HM3 HT3 HE3
          gi_wp2_with fail
          go_roundw
          case rel => exact ⟨a + 1, by go_num, by omega, HM6, HT6⟩
          case measure => simp [intOf]; omega
        · have HM6 : Hid (MapOf endK w3 (w.heap.size + 1) (t * 108 + (a + 1)) (roomA l k Q t (a + 1))) := by
            show MapOf _ _ _ _ _
            rw [roomA_skip HQ.out.nodup He.out hc]
            exact HM3.out.mono endK (by omega)
          rw [decide_eq_false hc]
          clear hc HM3 HE3
          gi_wp2_with fail
          go_roundw
          case rel => exact ⟨a + 1, by go_num, by omega, HM6, HT3⟩
          case measure => simp [intOf]; omega
      · have hla : a = Q.length := by omega
        subst hla
        gi_wp2_with fail
        have hk : ∀ b, b < W.heap.size → b ≠ w.heap.size + 1 → wr.heap[b]? = W.heap[b]? := fun b h1 h2 => HTu.out.block b h1 (fun h => h2 (List.mem_singleton.1 h))
        refine ⟨hk _ (by omega) (by omega), hk _ (by omega) (by omega), ⟨hTs, fun b hb => ?_⟩, HTu.out.blk HA.out (by simp), HTu.out.blk HB.out (by simp), ?_, hw.trans (HTu.out.below (fun b hb => by simp at hb; omega) (by omega))⟩
        · have := HD.out b (by rw [hsz] at hb; exact hb)
          exact hk b (by omega) this.2
        · have h1 := HMa.out
          rw [roomA_done] at h1
          exact h1.mono endK (by omega)
  case done =>
    rintro W ⟨h1, h2, h3, h4⟩ hK
    have y0 := h2.cell 0
    have hws := h4.size
    have hrw : w1.heap.size < W.heap.size := (Array.getElem?_eq_some_iff.1 hK).1
    gi_wp2_with fail
    refine ⟨by simp, .inl ⟨_, _, rfl, run_takeDeferred hK, ?_⟩⟩
    refine ⟨.map (some (w.heap.size + 1)), ?_, _, rfl, by omega, (h3.same endK (World.putObj_heap_other (by omega))).mono endK (by omega), put_bel h4 _ (by omega)⟩
    simp [results, Tryd.f42, go_sem]
  case stop => rintro c i W _ h; exact h.elim
end Go.Proofs.YtfkojahoaljiaaaDoor

namespace Go.Proofs.YtfkojahoaljiaaaDoor
open Go.RowKit

/-- The reduced words with one letter behind u. -/
def kidTo (l : List R) (u : ByteArray) (j : Nat) : List ByteArray := (List.range j).flatMap fun x => if hitS l (ext1 u x) then [] else [ext1 u x]
theorem kidTo_hit {l : List R} {u : ByteArray} {j : Nat} (h : hitS l (ext1 u j) = true) : kidTo l u (j + 1) = kidTo l u j := by
  unfold kidTo; rw [List.range_succ, List.flatMap_append, List.flatMap_singleton, if_pos h, List.append_nil]
theorem kidTo_new {l : List R} {u : ByteArray} {j : Nat} (h : hitS l (ext1 u j) = false) : kidTo l u (j + 1) = kidTo l u j ++ [ext1 u j] := by
  unfold kidTo; rw [List.range_succ, List.flatMap_append, List.flatMap_singleton, if_neg (by rw [h]; simp)]
theorem kidTo_len (l : List R) (u : ByteArray) : ∀ j, (kidTo l u j).length ≤ j
  | 0 => Nat.le_refl 0
  | j + 1 => by
    have := kidTo_len l u j
    cases h : hitS l (ext1 u j)
    · rw [kidTo_new h, List.length_append]; simp; omega
    · rw [kidTo_hit h]; omega
def kids (l : List R) (k : Nat) (L : List ByteArray) : List ByteArray := L.flatMap fun u => kidTo l u k
theorem kids_take {l : List R} {k a : Nat} {L : List ByteArray} {u : ByteArray} (h : L[a]? = some u) : kids l k (L.take (a + 1)) = kids l k (L.take a) ++ kidTo l u k := by
  have hk := (List.getElem?_eq_some_iff.1 h).1
  have he := (List.getElem?_eq_some_iff.1 h).2
  unfold kids
  rw [List.take_succ_eq_append_getElem hk, he, List.flatMap_append, List.flatMap_singleton]
theorem kids_len (l : List R) (k : Nat) : ∀ L : List ByteArray, (kids l k L).length ≤ L.length * k
  | [] => by simp [kids]
  | u :: L => by
    have h1 := kids_len l k L
    have h2 := kidTo_len l u k
    unfold kids at h1 ⊢
    rw [List.flatMap_cons, List.length_append, List.length_cons, Nat.add_mul]; omega
/-- .. and with n letters, level by level. -/
def lvl (l : List R) (k : Nat) : Nat → List ByteArray
  | 0 => [⟨#[]⟩]
  | n + 1 => kids l k (lvl l k n)
/-- .. with r letters behind u, one behind the other. -/
def dfs (l : List R) (k : Nat) : Nat → ByteArray → List ByteArray
  | 0, u => [u]
  | r + 1, u => (kidTo l u k).flatMap (dfs l k r)
theorem flatMap_flat {α β γ : Type} (f : α → List β) (g : β → List γ) : ∀ L : List α, (L.flatMap f).flatMap g = L.flatMap fun a => (f a).flatMap g
  | [] => rfl
  | a :: L => by simp only [List.flatMap_cons, List.flatMap_append, flatMap_flat f g L]
theorem dfs_back (l : List R) (k : Nat) : ∀ r u, dfs l k (r + 1) u = kids l k (dfs l k r u)
  | 0, u => by
    show (kidTo l u k).flatMap (fun v => [v]) = kids l k [u]
    unfold kids
    rw [List.flatMap_singleton]
    induction kidTo l u k with
    | nil => rfl
    | cons a L ih => rw [List.flatMap_cons, ih]; rfl
  | r + 1, u => by
    have h : dfs l k (r + 1 + 1) u = (kidTo l u k).flatMap (dfs l k (r + 1)) := rfl
    have h2 : dfs l k (r + 1) = fun v => kids l k (dfs l k r v) := funext fun v => dfs_back l k r v
    have h3 : dfs l k (r + 1) u = (kidTo l u k).flatMap (dfs l k r) := rfl
    rw [h, h3, h2]
    unfold kids
    rw [flatMap_flat]
theorem lvl_dfs (l : List R) (k : Nat) : ∀ n, lvl l k n = dfs l k n ⟨#[]⟩
  | 0 => rfl
  | n + 1 => by rw [dfs_back, ← lvl_dfs l k n]; rfl
/-- The end e says of u all that counts. -/
def Fits (l : List R) (u : ByteArray) (e : E) : Prop := Eqv (lefts l) u.data.toList (textE l e).data.toList
theorem fits_zero (l : List R) : Fits l ⟨#[]⟩ (0, 0) := Eqv.refl _ _
theorem fits_hit {l : List R} {u : ByteArray} {e : E} (h : Fits l u e) (x : Nat) : hitS l (ext1 u x) = hitS l (ext1 (textE l e) x) := by
  rw [hitS_ends, hitS_ends, ext1_list, ext1_list]; exact h [letC x] (by simp)
theorem fits_next {l : List R} {u : ByteArray} {e e' : E} {x : Nat} (h : Fits l u e) (hn : nxtS l e x = some e') : Fits l (ext1 u x) e' := by
  unfold nxtS at hn
  split at hn
  · cases hn
  · injection hn with hn
    subst hn
    have h1 := Eqv.snoc h (letC x)
    rw [← ext1_list, ← ext1_list] at h1
    obtain ⟨-, h2, h3⟩ := endOfS_spec l (ext1 (textE l e) x)
    exact h1.trans (eqv_lsp h2 h3)
theorem nxt_hit {l : List R} {e : E} {x : Nat} (h : hitS l (ext1 (textE l e) x) = true) : nxtS l e x = none := by unfold nxtS; rw [if_pos h]
theorem nxt_new {l : List R} {e : E} {x : Nat} (h : hitS l (ext1 (textE l e) x) = false) : ∃ e', nxtS l e x = some e' := ⟨_, by unfold nxtS; rw [if_neg (by rw [h]; simp)]⟩
theorem listTo_dfs (l : List R) (k : Nat) : ∀ (r : Nat) (u : ByteArray) (e : E), Fits l u e → listTo l k (fun _ => false) r u e = dfs l k r u
  | 0, _, _, _ => rfl
  | r + 1, u, e, h => by
    rw [listTo_succ]
    show _ = (kidTo l u k).flatMap (dfs l k r)
    have : ∀ j, listAt l k (fun _ => false) r u e j = (kidTo l u j).flatMap (dfs l k r) := by
      intro j
      induction j with
      | zero => rfl
      | succ j ih =>
        have hf := fits_hit h j
        cases hh : hitS l (ext1 (textE l e) j)
        · obtain ⟨e', hn⟩ := nxt_new hh
          have h2 := listTo_dfs l k r (ext1 u j) e' (fits_next h hn)
          rw [kidTo_new (hf.trans hh), List.flatMap_append, List.flatMap_singleton, ← ih, ← h2]
          rcases Nat.eq_zero_or_pos (cntE l k r e') with h0 | h0
          · rw [listAt_skip hn (fun h => by omega)]
            have h3 := listTo_len l k r (ext1 u j) e'
            rw [h0] at h3
            rw [List.eq_nil_of_length_eq_zero h3, List.append_nil]
          · rw [listAt_take hn h0 rfl]
        · rw [listAt_none (nxt_hit hh), kidTo_hit (hf.trans hh), ih]
    exact this k
/-- The list of the words of n letters. -/
theorem listTo_lvl (l : List R) (k n : Nat) : listTo l k (fun _ => false) n ⟨#[]⟩ (0, 0) = lvl l k n := by rw [listTo_dfs l k n _ _ (fits_zero l), lvl_dfs]
theorem lvl_len (l : List R) (k n : Nat) : (lvl l k n).length = countN l k n := by rw [← listTo_lvl, listTo_len]; rfl
theorem kidTo_size {l : List R} {u v : ByteArray} : ∀ j, v ∈ kidTo l u j → v.size = u.size + 1
  | 0, h => by simp [kidTo] at h
  | j + 1, h => by
    cases hh : hitS l (ext1 u j)
    · rw [kidTo_new hh, List.mem_append] at h
      rcases h with h | h
      · exact kidTo_size j h
      · simp at h; subst h; exact ext1_size u j
    · rw [kidTo_hit hh] at h; exact kidTo_size j h
theorem lvl_size {l : List R} {k : Nat} : ∀ n (v : ByteArray), v ∈ lvl l k n → v.size = n
  | 0, v, h => by simp [lvl] at h; subst h; rfl
  | n + 1, v, h => by
    obtain ⟨u, hu, hv⟩ := List.mem_flatMap.1 h
    rw [kidTo_size k hv, lvl_size n u hu]
theorem lvl_few (l : List R) (k : Nat) (hk : k ≤ 4) : ∀ n, (lvl l k n).length ≤ 4 ^ n
  | 0 => Nat.le_refl _
  | n + 1 => by
    have h1 := kids_len l k (lvl l k n)
    have h2 := Nat.mul_le_mul (lvl_few l k hk n) hk
    rw [Nat.pow_succ]
    exact Nat.le_trans h1 h2
theorem lvl_16 (l : List R) (k n : Nat) (hk : k ≤ 4) (hn : n ≤ 16) : (lvl l k n).length ≤ 4294967296 :=
  Nat.le_trans (lvl_few l k hk n) (Nat.le_trans (Nat.pow_le_pow_right (by omega) hn) (by decide))
theorem wr_small {c : Nat} (h : c ≤ 4294967296) : wr c = c := by unfold wr; rw [IntKind.wrap_i64]; omega
end Go.Proofs.YtfkojahoaljiaaaDoor

namespace Go.Proofs.YtfkojahoaljiaaaDoor
open Go.RowKit Go.Maps Go.Shelf

/-- A beginning b before all words from s on. -/
def lowS (s b : ByteArray) : Bool := Op.bytesLess b.toList (s.extract 0 (min s.size b.size)).toList
set_option maxHeartbeats 400000 in
theorem tooLow_any (gX : Nat) (s b : ByteArray) (w : World) (hX : w.cell? ⟨gX, 2, none⟩ = some (.string s)) :
    Calls Tryd.prog 63 #[.pointer (some ⟨gX, 0, none⟩), .string b] w fun y w' => y = .returned (.bool (lowS s b)) ∧ ∃ m, w' = w.drewN m := by
  by_cases hlt : b.size < s.size
  · have Hlow : Hid (lowS s b = Op.bytesLess b.toList (s.extract 0 b.size).toList) := by show _ = _; unfold lowS; rw [Nat.min_eq_right (Nat.le_of_lt hlt)]
    have h1 : (b.size : Int) < (s.size : Int) := by omega
    have h2 : (b.size : Int) ≤ (s.size : Int) := by omega
    go_enter Tryd.func63, Tryd.ntmps63
    go_wp2_with fail
    go_quiet (fail)
    all_goals go_wp2_with fail
    go_ret
    exact ⟨ret_bool Hlow.out.symm, _, rfl⟩
  · have Hlow : Hid (lowS s b = Op.bytesLess b.toList s.toList) := by show _ = _; unfold lowS; rw [Nat.min_eq_left (Nat.le_of_not_lt hlt)]; simp
    have h1 : ¬ (b.size : Int) < (s.size : Int) := by omega
    go_enter Tryd.func63, Tryd.ntmps63
    go_wp2_with fail
    go_quiet (fail)
    all_goals go_wp2_with fail
    go_ret
    exact ⟨ret_bool Hlow.out.symm, _, rfl⟩
/-- Block b is a variable that holds an end. -/
def EndB (W : World) (b : Nat) : Prop := ∃ cs, W.heap[b]? = some (.cells cs 79 (0, 0))
/-- The blocks of D, and variables that hold ends, lie as they lay. -/
structure KeepE (D : Nat → Prop) (W W' : World) : Prop where
  size : W.heap.size ≤ W'.heap.size
  block : ∀ b, D b ∨ EndB W b → W'.heap[b]? = W.heap[b]?
theorem KeepE.refl (D : Nat → Prop) (W : World) : KeepE D W W := ⟨Nat.le_refl _, fun _ _ => rfl⟩
theorem KeepE.trans {D : Nat → Prop} {X Y Z : World} (h : KeepE D X Y) (k : KeepE D Y Z) : KeepE D X Z :=
  ⟨Nat.le_trans h.size k.size, fun b hb => (k.block b (hb.imp id (fun ⟨cs, hc⟩ => ⟨cs, (h.block b (.inr ⟨cs, hc⟩)).trans hc⟩))).trans (h.block b hb)⟩
theorem keepE_t {D : Nat → Prop} {A B C : World} (h : KeepE D A B) (k : KeepE D B C) : KeepE D A C := h.trans k
theorem keepE_b {D : Nat → Prop} {w : World} (hD : ∀ k, D k → k < w.heap.size) (W : World) (l : Nat) (o o' : Obj) (hl : w.heap.size ≤ l) (h : W.heap[l]? = some o) (hc : o.isCells = false) (_ : o.isWalk = false) : KeepE D W (W.putObj l o') :=
  ⟨(grownBy_putObj' W l o').size, fun b hb => World.putObj_heap_other (fun e => by
    subst e
    rcases hb with hb | ⟨cs, hb⟩
    · have := hD b hb; omega
    · rw [h] at hb; injection hb with hb; subst hb; cases hc)⟩
theorem keepE_of {D : Nat → Prop} {W W' : World} (h : Below W.heap.size W W') (hD : ∀ k, D k → k < W.heap.size) : KeepE D W W' :=
  ⟨h.size, fun b hb => h.block b (hb.elim (hD b) (fun ⟨_, hc⟩ => (Array.getElem?_eq_some_iff.1 hc).1))⟩
theorem KeepE.blk {D : Nat → Prop} {W W' : World} (hk : KeepE D W W') {g : Nat} {t : TypeId} {cs : Array Value} (h : Blk W g t cs) (hg : D g) : Blk W' g t cs := (hk.block g (.inl hg)).trans h
theorem KeepE.end_ {D : Nat → Prop} {W W' : World} (hk : KeepE D W W') {g : Nat} {cs : Array Value} (h : Blk W g 79 cs) : Blk W' g 79 cs := (hk.block g (.inr ⟨cs, h⟩)).trans h
/-- What visit needs of a world: the listing at gX, of the words of n letters from s on. -/
structure ListAt (l : List R) (k gX gL mA gR n : Nat) (s : ByteArray) (Q : List E) (D : Nat → Prop) (W : World) : Prop where
  obj : Blk W gX 95 #[.pointer (some ⟨gL, 0, none⟩), .int .i64 n, .string s, .map (some gR)]
  lang : ∃ v, Blk W gL 83 #[.int .i64 k, v, .map (some mA)]
  aft : ∃ c, MapOf moveK W mA c (aftV (aftQ l k Q))
  room : ∃ c, MapOf endK W gR c (roomM l k Q (n + 1))
  abc : ∀ j : Nat, j < 4 → W.cell? ⟨0, j, none⟩ = some (.int .u8 (97 + (j : Int)))
  dX : D gX
  dL : D gL
  dA : D mA
  dR : D gR
  dG : D 0
theorem ListAt.keep {l : List R} {k gX gL mA gR n : Nat} {s : ByteArray} {Q : List E} {D : Nat → Prop} {W W' : World} (h : ListAt l k gX gL mA gR n s Q D W) (hk : KeepE D W W') : ListAt l k gX gL mA gR n s Q D W' := by
  obtain ⟨h1, ⟨v, h2⟩, ⟨c, h3⟩, ⟨c', h4⟩, h5, d1, d2, d3, d4, d5⟩ := h
  exact ⟨hk.blk h1 d1, ⟨v, hk.blk h2 d2⟩, ⟨c, h3.same moveK (hk.block _ (.inl d3))⟩, ⟨c', h4.same endK (hk.block _ (.inl d4))⟩,
    fun j hj => (World.cell?_of_block (w := W) (a := ⟨0, j, none⟩) (hk.block _ (.inl d5))).trans (h5 j hj), d1, d2, d3, d4, d5⟩
theorem roomM_some {l : List R} {k n : Nat} {Q : List E} {e : E} (he : e ∈ Q) : roomM l k Q (n + 1) e = some (.int .i64 (roomOf l k n e)) := by
  unfold roomM; rw [if_pos ⟨he, Nat.succ_pos n⟩]; rfl
theorem listAt_pre (l : List R) (k : Nat) (low : ByteArray → Bool) (r : Nat) (u : ByteArray) (e : E) (j : Nat) : ∀ d, listAt l k low r u e j <+: listAt l k low r u e (j + d)
  | 0 => List.prefix_refl _
  | d + 1 => by
    refine (listAt_pre l k low r u e j d).trans ?_
    rw [← Nat.add_assoc]
    show listAt l k low r u e (j + d) <+: listAt l k low r u e (j + d + 1)
    unfold listAt
    rw [List.range_succ, List.flatMap_append]
    exact List.prefix_append _ _

set_option maxRecDepth 100000 in
set_option maxHeartbeats 4000000 in
theorem visit_in (m : Nat) (hm : 1 ≤ m) (l : List R) (k gX gL mA gR n : Nat) (s : ByteArray) (Q : List E) (D : Nat → Prop) (lp : Nat) (L : List ByteArray) (J Jx : List ByteArray → World → Prop) (hk4 : k ≤ 4) (hn : n ≤ 1000) (hl : ∀ r ∈ l, r.1.size ≤ 8) (h12 : l.length ≤ 12) (hQ : Ends l k Q)
    (hY : ∀ pre x W, J pre W → pre.length < L.length → YieldAt Fence.wide (m - 1) Tryd.prog lp #[.string x] W fun e W' =>
      (e = .returned (.bool true) ∧ J (pre ++ [x]) W' ∧ KeepE D W W') ∨ (e = .returned (.bool false) ∧ Jx (pre ++ [x]) W'))
    (W0 : World) (hJ : AbidesFrom W0.heap.size J) (hD : ∀ b, D b → b < W0.heap.size) (h0 : ListAt l k gX gL mA gR n s Q D W0) :
    ∀ (r : Nat) (u : ByteArray) (e : E) (pre : List ByteArray) (W : World), u.size + r = n → e ∈ Q → pre ++ listTo l k (lowS s) r u e <+: L → KeepE D W0 W → J pre W →
      CallsIn Fence.wide m Tryd.prog 44 #[.pointer (some ⟨gX, 0, none⟩), .string u, endV e, .func (.yield lp) #[] #[]] W fun y W' =>
        (y = .returned (.bool true) ∧ J (pre ++ listTo l k (lowS s) r u e) W' ∧ KeepE D W W') ∨ (y = .returned (.bool false) ∧ ∃ p, p <+: L ∧ Jx p W') := by
  have HQ := Lib.hid hQ
  have Hl := Lib.hid hl
  have H12 := Lib.hid h12
  clear hQ hl h12
  intro r
  induction r with
  | zero =>
    intro u e pre W hu he hpre hb hJp
    have b1 := bel1 W (.cells #[.int .i64 e.1, .int .i64 e.2] 79)
    have hJ1 := abides_below hJ hJp b1
    have hbW := keepE_of (D := D) b1 (fun b hd => by have := hD b hd; have := hb.size; omega)
    have hb1 := hb.trans hbW
    have HX := Lib.hid (h0.keep hb1).obj
    have x1 := HX.out.cell 1
    have e1 : ((u.size : Int) == (n : Int)) = true := by simp; omega
    have hlen : pre.length < L.length := by have := hpre.length_le; rw [List.length_append] at this; simp [listTo] at this; omega
    have Hpre := Lib.hid hpre
    clear hpre
    obtain ⟨fn, tmps, assign, body, hy, hR⟩ := hY pre u _ hJ1 hlen
    refine callsIn_of_wp Tryd.func44 rfl trivial ?_ rfl
    simp only [Tryd.ntmps44, List.size_toArray, List.length_cons, List.length_nil, Nat.reduceAdd, Nat.reduceSub, Array.replicate_succ, Array.replicate_zero, List.push_toArray, List.append_toArray, List.nil_append, List.cons_append]
    gi_wp2_with fail
    refine hR.mono ?_
    rintro y w6 (⟨rfl, hJ6, hk6⟩ | ⟨rfl, hJx6⟩)
    · have HJ6 := Lib.hid hJ6
      have HK6 := Lib.hid (hbW.trans hk6)
      gi_wp2_with fail
      go_ret
      exact .inl ⟨rfl, HJ6.out, HK6.out⟩
    · have HJ6 := Lib.hid hJx6
      gi_wp2_with fail
      go_ret
      exact .inr ⟨rfl, _, Hpre.out, HJ6.out⟩
  | succ r ih =>
    intro u e pre W hu he hpre hb hJp
    have hoe : okE e := (HQ.out.good e he).lt Hl.out H12.out
    have b1 := bel1 W (.cells #[.int .i64 e.1, .int .i64 e.2] 79)
    have hJ1 := abides_below hJ hJp b1
    have HBW := Lib.hid (keepE_of (D := D) b1 (fun b hd => by have := hD b hd; have := hb.size; omega))
    have hb1 := hb.trans HBW.out
    have HEb := Lib.hid (Blk.new1 W #[.int .i64 e.1, .int .i64 e.2] 79)
    have HA1 := h0.keep hb1
    have x0 := HA1.obj.cell 0
    have x1 := HA1.obj.cell 1
    obtain ⟨vL, hvL⟩ := HA1.lang
    have g0 := hvL.cell 0
    have e1 : ((u.size : Int) == (n : Int)) = false := by simp; omega
    have Hu := Lib.hid hu
    have hun : u.size ≤ 1000 := by omega
    have He := Lib.hid he
    have Hpre := Lib.hid hpre
    have hsz1 := hb.size
    clear hpre hu he hJp b1 hvL
    refine callsIn_wide.2 ?_
    go_enter Tryd.func44, Tryd.ntmps44
    go_wp2_with fail
    clear x0 x1 g0 e1 HA1
    have HB1 := Lib.hid hb1
    clear hb1 hb
    generalize W.heap.size = eb at *
    generalize W.alloc (.cells #[.int .i64 e.1, .int .i64 e.2] 79) = W1 at *
    go_loopw [30] (fun i wr => ∃ j : Nat, i = .int .i64 j ∧ j ≤ k ∧ Hid (KeepE D W1 wr) ∧ J (pre ++ listAt l k (lowS s) r u e j) wr) (fun i _ => k - (intOf i).toNat)
    case atStart => exact ⟨0, rfl, Nat.zero_le _, KeepE.refl _ _, by simpa [listAt] using hJ1⟩
    case round =>
      clear hJ1
      obtain ⟨j, rfl, hj, HK, hJr⟩ := hrel
      by_cases hlt : j < k
      · have HA := Lib.hid (h0.keep (HB1.out.trans HK.out))
        have HEr := Lib.hid (HK.out.end_ HEb.out)
        have hsr := (HB1.out.trans HK.out).size
        obtain ⟨u5, v5, cc5, hv5, hn5⟩ := after_form (aftQ l k Q e j)
        rw [aftQ_at He.out hlt] at hn5
        have Hn5 := Lib.hid hn5
        obtain ⟨vL, hvL⟩ := HA.out.lang
        obtain ⟨cA, hmA⟩ := HA.out.aft
        have glX : gX < wr.heap.size := HA.out.obj.lt
        have glL : gL < wr.heap.size := hvL.lt
        have ebr : eb < wr.heap.size := HEr.out.lt
        have hlk : ∀ w', Below wr.heap.size wr w' → (Instr.lookup 81 (.map (some mA)) (.agg #[.int .i64 e.1, .int .i64 e.2, .int .u8 (97 + (j : Int))]) true).run Tryd.prog w' = .ok (.tuple #[.agg #[.int .i64 u5, .int .i64 v5], .bool cc5]) w' := fun w' hw => by
          have := (hmA.below moveK hw (hmA.lt moveK)).look_ok moveK (mt := 81) (et := 79) Tryd.underlying81 (zeroEnd w') (x := (e, j)) ⟨hoe, by omega⟩
          rw [look_after, hv5] at this
          exact this
        have hcl := HA.out.abc j (by omega)
        have glt : 0 < wr.heap.size := World.block_lt_of_cell? wr _ hcl
        have HSt : Hid (∀ w', Below wr.heap.size wr w' → w'.cell? ⟨gX, 0, none⟩ = some (.pointer (some ⟨gL, 0, none⟩)) ∧ w'.cell? ⟨gL, 2, none⟩ = some (.map (some mA)) ∧ w'.cell? ⟨eb, 0, none⟩ = some (.int .i64 e.1) ∧ w'.cell? ⟨eb, 1, none⟩ = some (.int .i64 e.2) ∧ w'.cell? ⟨0, j, none⟩ = some (.int .u8 (97 + (j : Int))) ∧ (Instr.lookup 81 (.map (some mA)) (.agg #[.int .i64 e.1, .int .i64 e.2, .int .u8 (97 + (j : Int))]) true).run Tryd.prog w' = .ok (.tuple #[.agg #[.int .i64 u5, .int .i64 v5], .bool cc5]) w' ∧ Below wr.heap.size wr w') :=
          fun w' hw => ⟨(hw.cell glX).trans (HA.out.obj.cell 0), (hw.cell glL).trans (hvL.cell 2), (hw.cell ebr).trans (HEr.out.cell 0), (hw.cell ebr).trans (HEr.out.cell 1), (hw.cell glt).trans hcl, hlk w' hw, hw⟩
        have hj0 : (0 : Int) ≤ (j : Int) := by omega
        have hj4 : (j : Int) < 4 := by omega
        have c0' : Below wr.heap.size wr wr.drew := (Below.refl _ wr).drew
        clear hlk hcl hvL hmA hv5 hn5
        go_wp2_with fail
        go_cut [10, 11] from 33 to 49 (fun s9 s10 wx => ∃ (d : Nat), s9 = .pointer (some ⟨d, 0, none⟩) ∧ s10 = .bool cc5 ∧ Hid (Blk wx d 79 #[.int .i64 u5, .int .i64 v5]) ∧ Hid (Below wr.heap.size wr wx))
        case first =>
          go_region_held3 (fun w' => w'.cell? ⟨gX, 0, none⟩ = some (.pointer (some ⟨gL, 0, none⟩)) ∧ w'.cell? ⟨gL, 2, none⟩ = some (.map (some mA)) ∧ w'.cell? ⟨eb, 0, none⟩ = some (.int .i64 e.1) ∧ w'.cell? ⟨eb, 1, none⟩ = some (.int .i64 e.2) ∧ w'.cell? ⟨0, j, none⟩ = some (.int .u8 (97 + (j : Int))) ∧ (Instr.lookup 81 (.map (some mA)) (.agg #[.int .i64 e.1, .int .i64 e.2, .int .u8 (97 + (j : Int))]) true).run Tryd.prog w' = .ok (.tuple #[.agg #[.int .i64 u5, .int .i64 v5], .bool cc5]) w' ∧ Below wr.heap.size wr w')
            (first | exact HSt.out _ c0' | exact HSt.out _ (c0'.alloc c0'.size _) | exact HSt.out _ (((c0'.alloc c0'.size _).setCell c0'.size _).setCell c0'.size _))
            (fail)
          all_goals go_wp2_with fail
          all_goals go_meet
          all_goals exact ⟨_, rfl, rfl, Blk.new1 _ _ _, (bel1 wr _).drew⟩
        case rest =>
          obtain ⟨d, rfl, rfl, HDd, HW⟩ := hcut
          have hJc := abides_below hJ hJr HW.out
          have HKc := Lib.hid (HK.out.trans (keepE_of HW.out (fun b hd => by have := hD b hd; omega)))
          have HAc := Lib.hid (h0.keep (HB1.out.trans HKc.out))
          have y0 := HAc.out.abc j (by omega)
          obtain ⟨bb, hbs, hbx, hcv⟩ := letter_text j (by omega)
          have Hbb := Lib.hid (show u ++ bb = ext1 u j by unfold ext1; rw [hbx])
          clear hbx HSt c0' HW hJr HA HK HEr
          have hxs : (ext1 u j).size = u.size + 1 := ext1_size u j
          have HSZ := Lib.hid hxs
          have hxb : (ext1 u j).size ≤ 1001 := by omega
          have hsc := (HB1.out.trans HKc.out).size
          clear hxs
          go_wp2_with fail
          clear y0 hcv
          rw [Hbb.out]
          cases cc5
          · have hJn := Lib.hid (show J (pre ++ listAt l k (lowS s) r u e (j + 1)) wc by rw [listAt_none Hn5.out]; exact hJc)
            go_quiet (fail)
            all_goals go_wp2_with fail
            have hJn2 := abides_below hJ hJn.out (below_drewN (Below.refl _ _) nq)
            have HKn : Hid (KeepE D W1 (wc.drewN nq)) := ⟨HKc.out.size, HKc.out.block⟩
            go_roundw
            case rel => exact ⟨j + 1, by go_num, by omega, HKn, hJn2⟩
            case measure => simp [intOf]; omega
          · have Hn6 : Hid (nxtS l e j = some (u5, v5)) := Hn5
            have hm5 : (u5, v5) ∈ Q := HQ.out.next e j _ He.out hlt Hn6.out
            have ho5 : okE (u5, v5) := (HQ.out.good _ hm5).lt Hl.out H12.out
            have hrle := roomOf_le l k (u5, v5) n
            have hriff := roomOf_iff l k (u5, v5) n r (by have := Hu.out; omega)
            obtain ⟨cR, hmR⟩ := HAc.out.room
            have hlr : ∀ q, (Instr.lookup 92 (.map (some gR)) (.agg #[.int .i64 u5, .int .i64 v5]) false).run Tryd.prog (wc.drewN q) = .ok (.int .i64 (roomOf l k n (u5, v5))) (wc.drewN q) := fun q => by
              have := (hmR.below endK (below_drewN (Below.refl _ wc) q) (hmR.lt endK)).look endK (mt := 92) (et := 3) Tryd.underlying92 (zeroInt _) (x := (u5, v5)) ho5
              rw [roomM_some hm5] at this
              exact this
            have d0 : wc.cell? ⟨d, 0, none⟩ = some (.int .i64 u5) := HDd.out.cell 0
            have d1 : wc.cell? ⟨d, 1, none⟩ = some (.int .i64 v5) := HDd.out.cell 1
            have x1 : wc.cell? ⟨gX, 1, none⟩ = some (.int .i64 n) := HAc.out.obj.cell 1
            have x3 : wc.cell? ⟨gX, 3, none⟩ = some (.map (some gR)) := HAc.out.obj.cell 3
            have HTL := Lib.hid (fun q => tooLow_any gX s (ext1 u j) (wc.drewN q) (HAc.out.obj.cell 2))
            have Hm5 := Lib.hid hm5
            generalize hRM : roomOf l k n (u5, v5) = RM at *
            have HRM := Lib.hid hRM
            clear hRM hm5 hmR
            by_cases hc : r ≤ RM
            · have e2 : decide (((ext1 u j).size : Int) + (RM : Int) < (n : Int)) = false := by simp; have := HSZ.out; have := Hu.out; omega
              have hp := hriff.1 hc
              have Hp := Lib.hid hp
              clear hc hriff hp
              cases hlow : lowS s (ext1 u j)
              · have Htake := Lib.hid (listAt_take (low := lowS s) (u := u) Hn6.out Hp.out hlow)
                rw [hlow] at HTL
                have hpre2 : (pre ++ listAt l k (lowS s) r u e j) ++ listTo l k (lowS s) r (ext1 u j) (u5, v5) <+: L := by
                  have h1 := listAt_pre l k (lowS s) r u e (j + 1) (k - (j + 1))
                  rw [show j + 1 + (k - (j + 1)) = k by omega, ← listTo_succ] at h1
                  rw [List.append_assoc, ← Htake.out]
                  exact ((List.prefix_append_right_inj _).2 h1).trans Hpre.out
                have Hpre2 := Lib.hid hpre2
                clear hlow hpre2
                go_quiet ((go_at_call 63; exact Calls.quiet_of (HTL.out _)))
                go_wp2_with fail
                have hJn2 := abides_below hJ hJc (below_drewN (Below.refl _ _) nq)
                have HKn : Hid (KeepE D W1 (wc.drewN nq)) := ⟨HKc.out.size, HKc.out.block⟩
                refine (callsIn_wide.1 (ih (ext1 u j) (u5, v5) _ (wc.drewN nq) (by have := HSZ.out; have := Hu.out; omega) Hm5.out Hpre2.out (HB1.out.trans HKn.out) hJn2)).mono ?_
                rintro y w6 (⟨rfl, hJ6, hk6⟩ | ⟨rfl, hJx6⟩)
                · rw [List.append_assoc, ← Htake.out] at hJ6
                  have HK6 := Lib.hid (HKn.out.trans hk6)
                  go_wp2_with fail
                  go_roundw
                  case rel => exact ⟨j + 1, by go_num, by omega, HK6, hJ6⟩
                  case measure => simp [intOf]; omega
                · have HJ6 := Lib.hid hJx6
                  go_wp2_with fail
                  go_ret
                  exact .inr ⟨rfl, HJ6.out⟩
              · have hJn := Lib.hid (show J (pre ++ listAt l k (lowS s) r u e (j + 1)) wc by rw [listAt_skip Hn6.out (fun h => by rw [hlow] at h; cases h.2)]; exact hJc)
                rw [hlow] at HTL
                clear hlow
                go_quiet ((go_at_call 63; exact Calls.quiet_of (HTL.out _)))
                all_goals go_wp2_with fail
                have hJn2 := abides_below hJ hJn.out (below_drewN (Below.refl _ _) nq)
                have HKn : Hid (KeepE D W1 (wc.drewN nq)) := ⟨HKc.out.size, HKc.out.block⟩
                go_roundw
                case rel => exact ⟨j + 1, by go_num, by omega, HKn, hJn2⟩
                case measure => simp [intOf]; omega
            · have e2 : decide (((ext1 u j).size : Int) + (RM : Int) < (n : Int)) = true := by simp; have := HSZ.out; have := Hu.out; omega
              have hJn := Lib.hid (show J (pre ++ listAt l k (lowS s) r u e (j + 1)) wc by rw [listAt_skip Hn6.out (fun h => hc (hriff.2 h.1))]; exact hJc)
              clear hc hriff
              go_quiet (fail)
              all_goals go_wp2_with fail
              have hJn2 := abides_below hJ hJn.out (below_drewN (Below.refl _ _) nq)
              have HKn : Hid (KeepE D W1 (wc.drewN nq)) := ⟨HKc.out.size, HKc.out.block⟩
              go_roundw
              case rel => exact ⟨j + 1, by go_num, by omega, HKn, hJn2⟩
              case measure => simp [intOf]; omega
      · obtain rfl : k = j := by omega
        have HJn := Lib.hid hJr
        rw [← listTo_succ] at HJn
        go_wp2_with fail
        go_ret
        exact .inl ⟨rfl, HJn.out, HBW.out.trans HK.out⟩
end Go.Proofs.YtfkojahoaljiaaaDoor

namespace Go.Proofs.YtfkojahoaljiaaaDoor
open Go.RowKit Go.Joins
/-- An int of a range; below the heap's old end nothing has turned. -/
def NumPost (W : World) (lo hi : Int) (e : Ending) (w' : World) : Prop := ∃ r : Int, e = .returned (.int .i64 r) ∧ lo ≤ r ∧ r ≤ hi ∧ Below W.heap.size W w'

set_option maxHeartbeats 800000 in
theorem MakeNum_any (A : Option Addr) (n c m : Nat) (w : World) (h : InB w A n c) (hn : n ≤ 1048576) (hm : m ≤ 1000000) :
    Calls Tryd.prog 6 #[.slice A n c, .int .i64 m] w (NumPost w 0 65535) := by
  go_enter Tryd.func6, Tryd.ntmps6
  go_wp2_with (go_at_call 18; refine (l31New_any A n c m _ h hn hm).mono ?_)
  rintro e w1 ⟨g, rfl, hg, hC, hb⟩
  have hs := hb.size
  go_wp2_with (go_at_call 19; refine (l01Byte_any g A n c _ hC).mono ?_)
  rintro e w2 ⟨r, rfl, hr0, hr1, hC2, hG⟩
  have hb2 := below_grown hb hG hg hs
  have hs2 := hb2.size
  go_wp2_with (go_at_call 19; refine (l01Byte_any g A n c _ hC2).mono ?_)
  rintro e w3 ⟨r', rfl, hr0', hr1', hC3, hG'⟩
  have hb3 := below_grown hb2 hG' hg hs2
  clear hC hC2 hC3 hG hG'
  go_wp2_with fail
  go_ret
  exact ⟨_, rfl, by omega, by omega, hb3⟩

end Go.Proofs.YtfkojahoaljiaaaDoor

namespace Go.Proofs.YtfkojahoaljiaaaDoor
open Go.RowKit Go.Maps Go.Shelf
attribute [local go_sem] Oper.semAt_some

/-- What the value of words needs of a world. -/
structure WordsAt (l : List R) (k bx n : Nat) (s : ByteArray) (D : Nat → Prop) (W : World) : Prop where
  at_ : ∃ gX gL mA gR Q, Blk W bx 91 #[.pointer (some ⟨gX, 0, none⟩)] ∧ ListAt l k gX gL mA gR n s Q D W ∧ Ends l k Q
  dB : D bx
theorem WordsAt.keep {l : List R} {k bx n : Nat} {s : ByteArray} {D : Nat → Prop} {W W' : World} (h : WordsAt l k bx n s D W) (hk : KeepE D W W') : WordsAt l k bx n s D W' := by
  obtain ⟨⟨gX, gL, mA, gR, Q, h1, h2, h3⟩, d⟩ := h
  exact ⟨⟨gX, gL, mA, gR, Q, hk.blk h1 d, h2.keep hk, h3⟩, d⟩
theorem ListAt.weak {l : List R} {k gX gL mA gR n : Nat} {s : ByteArray} {Q : List E} {D D' : Nat → Prop} {W : World} (h : ListAt l k gX gL mA gR n s Q D W) (hD : ∀ b, b < W.heap.size → D b → D' b) : ListAt l k gX gL mA gR n s Q D' W := by
  obtain ⟨h1, ⟨v, h2⟩, ⟨c, h3⟩, ⟨c', h4⟩, h5, d1, d2, d3, d4, d5⟩ := h
  exact ⟨h1, ⟨v, h2⟩, ⟨c, h3⟩, ⟨c', h4⟩, h5, hD _ h1.lt d1, hD _ h2.lt d2, hD _ (h3.lt moveK) d3, hD _ (h4.lt endK) d4, hD _ (World.block_lt_of_cell? W _ (h5 0 (by omega))) d5⟩
theorem WordsAt.weak {l : List R} {k bx n : Nat} {s : ByteArray} {D D' : Nat → Prop} {W : World} (h : WordsAt l k bx n s D W) (hD : ∀ b, b < W.heap.size → D b → D' b) : WordsAt l k bx n s D' W := by
  obtain ⟨⟨gX, gL, mA, gR, Q, h1, h2, h3⟩, d⟩ := h
  exact ⟨⟨gX, gL, mA, gR, Q, h1, h2.weak hD, h3⟩, hD _ h1.lt d⟩
set_option maxRecDepth 100000 in
set_option maxHeartbeats 1600000 in
theorem words_any (k : Nat) (l : List R) (b0 gL mA c0 n : Nat) (s : ByteArray) (Q : List E) (w : World) (hl : ∀ r ∈ l, r.1.size ≤ 8) (h12 : l.length ≤ 12) (hk : k ≤ 4) (hQ : Ends l k Q) (hlet : Let w) (hL : LangS w b0 gL mA k c0 Q (aftQ l k Q)) (hn : n ≤ 1000) :
    Calls Tryd.prog 24 #[.pointer (some ⟨gL, 0, none⟩), .int .i64 n, .string s] w fun y w' => ∃ bx, y = .returned (.func (.func 43) #[] #[.pointer (some ⟨bx, 0, none⟩)]) ∧ WordsAt l k bx n s (· < w'.heap.size) w' ∧ Below w.heap.size w w' := by
  have HL := Lib.hid hL
  have HQ := Lib.hid hQ
  have HT := Lib.hid (fun (w' : World) (hb : Below w.heap.size w w') => hlet.keep hb (Nat.le_refl _))
  have HR := Lib.hid (room_any k l b0 gL mA c0 n Q w hl h12 hk hQ hlet hL hn)
  clear hL hQ hlet hl h12
  go_enter Tryd.func24, Tryd.ntmps24
  go_wp2_with fail
  refine HR.out.mono ?_
  rintro y w1 ⟨gR, rfl, hgR, hM, hb1⟩
  have HM := Lib.hid hM
  have HB1 := Lib.hid hb1
  clear hM hb1
  go_wp2_with fail
  go_ret
  have b2 := bel2 w1 (.cells #[.pointer (some ⟨gL, 0, none⟩), .int .i64 n, .string s, .map (some gR)] 95) (.cells #[.pointer (some ⟨w1.heap.size, 0, none⟩)] 91)
  have b3 := HB1.out.trans (b2.mono HB1.out.size)
  have X1 := (Blk.new1 w1 #[.pointer (some ⟨gL, 0, none⟩), .int .i64 n, .string s, .map (some gR)] 95).alloc (.cells #[.pointer (some ⟨w1.heap.size, 0, none⟩)] 91)
  have X2 := Blk.new2 w1 (.cells #[.pointer (some ⟨gL, 0, none⟩), .int .i64 n, .string s, .map (some gR)] 95) #[.pointer (some ⟨w1.heap.size, 0, none⟩)] 91
  have hM2 := HM.out.below endK b2 (HM.out.lt endK)
  have hT2 := HT.out _ b3
  obtain ⟨⟨A2, cap, hblk, -⟩, hmap, -, -⟩ := HL.out.below b3
  generalize (w1.alloc (.cells #[.pointer (some ⟨gL, 0, none⟩), .int .i64 n, .string s, .map (some gR)] 95)).alloc (.cells #[.pointer (some ⟨w1.heap.size, 0, none⟩)] 91) = w2 at *
  exact ⟨w1.heap.size + 1, rfl, ⟨⟨w1.heap.size, gL, mA, gR, Q, X2, ⟨X1, ⟨_, hblk⟩, ⟨_, hmap⟩, ⟨_, hM2⟩, fun j hj => hT2.cell j hj, X1.lt, hblk.lt, hmap.lt moveK, hM2.lt endK, World.block_lt_of_cell? w2 _ (hT2.cell 0 (by omega))⟩, HQ.out⟩, X2.lt⟩, b3⟩
set_option maxRecDepth 100000 in
set_option maxHeartbeats 800000 in
theorem words_stops (m : Nat) (hm : 1 ≤ m) (l : List R) (k bx n : Nat) (s : ByteArray) (D : Nat → Prop) (w : World) (hk4 : k ≤ 4) (hn : n ≤ 1000) (hl : ∀ r ∈ l, r.1.size ≤ 8) (h12 : l.length ≤ 12) (h : WordsAt l k bx n s D w) (hD : ∀ b, D b → b < w.heap.size) :
    SeqStopsK Fence.wide m Tryd.prog 43 #[.pointer (some ⟨bx, 0, none⟩)] (fun x : ByteArray => #[.string x]) (KeepE D) (fun ys => ys = listTo l k (lowS s) n ⟨#[]⟩ (0, 0)) (fun pre => pre <+: listTo l k (lowS s) n ⟨#[]⟩ (0, 0)) (listTo l k (lowS s) n ⟨#[]⟩ (0, 0)).length w := by
  intro lp J Jx W hW hJ _ hY h0
  have h' := h.keep (keepE_of hW hD)
  obtain ⟨⟨gX, gL, mA, gR, Q, hb, hA, hQ⟩, -⟩ := h'
  have x0 := hb.cell 0
  have hz := hQ.zero
  have HV := Lib.hid (visit_in m hm l k gX gL mA gR n s Q D lp _ J Jx hk4 hn hl h12 hQ hY W hJ (fun b hd => by have := hD b hd; have := hW.size; omega) hA n ⟨#[]⟩ (0, 0) [] W (by show 0 + n = n; omega) hz (List.prefix_refl _) (KeepE.refl _ _) h0)
  clear hY hb hA hQ hz h
  refine callsIn_of_wp Tryd.func43 rfl trivial ?_ rfl
  simp only [Tryd.ntmps43, List.size_toArray, List.length_cons, List.length_nil, Nat.reduceAdd, Nat.reduceSub, Array.replicate_succ, Array.replicate_zero, List.push_toArray, List.append_toArray, List.nil_append, List.cons_append]
  gi_wp2_with fail
  refine ⟨trivial, (callsIn_wide.2 (callsIn_wide.1 HV.out)).mono ?_⟩
  rintro y w1 (⟨rfl, hJ1, -⟩ | ⟨rfl, p, hp, hJx⟩)
  · have HJ := Lib.hid hJ1
    clear hJ1
    gi_wp2_with fail
    go_end0
    exact ⟨⟨_, rfl⟩, .inl ⟨_, rfl, HJ.out⟩⟩
  · have HJ := Lib.hid hJx
    have Hp := Lib.hid hp
    clear hJx hp
    gi_wp2_with fail
    go_end0
    exact ⟨⟨_, rfl⟩, .inr ⟨p, Hp.out, HJ.out⟩⟩
/-- A variable's box B holds a slice whose row lies beyond; behind an append and the store back: variables that hold ends lie as they lay. -/
theorem boxE_appended {W w1 : World} {base B : Nat} {t e : TypeId} {size : Nat} {v v' : Value} {k : Nat} {xs : List Value} {tmp : Obj} {D : Nat → Prop} (hv : Blk W B t #[v]) (ht : t ≠ 79) (he : e ≠ 79) (hB : B < base) (hb : base ≤ W.heap.size)
    (hrow : W.ownsRow base e size v k xs) (hgrow : (W.alloc tmp).grownBy w1 v.ownBlock) (hD : ∀ k, D k → k < base ∧ k ≠ B) : KeepE D W (w1.setCell ⟨B, 0, none⟩ v') := by
  have hsz : W.heap.size ≤ w1.heap.size := by have := hgrow.size; simp at this; omega
  refine ⟨by simp [World.size_setCell]; omega, fun b hbb => ?_⟩
  have key : b < W.heap.size ∧ b ≠ B ∧ some b ≠ v.ownBlock := by
    rcases hbb with hd | ⟨cs, hc⟩
    · obtain ⟨h1, h2⟩ := hD b hd
      refine ⟨by omega, h2, fun e1 => ?_⟩
      have := (hrow.lt b e1.symm).1
      omega
    · refine ⟨(Array.getElem?_eq_some_iff.1 hc).1, fun e1 => ?_, fun e1 => ?_⟩
      · subst e1
        unfold Blk at hv
        rw [hc] at hv; injection hv with hv; injection hv with _ h2; exact ht h2.symm
      · rcases hrow.2 with ⟨rfl, _⟩ | ⟨g, cap, cur, rfl, _, hgb, _⟩
        · simp [Value.ownBlock] at e1
        · have e2 : b = g := by simpa [Value.ownBlock] using e1
          subst e2
          rw [hc] at hgb; injection hgb with hgb; injection hgb with _ h2; exact he h2.symm
  obtain ⟨k1, k2, k3⟩ := key
  exact (Below.heap_setCell w1 ⟨B, 0, none⟩ v' b k2).trans ((hgrow.block b (by simp; omega) k3).trans (Below.heap_alloc W tmp b k1))
set_option maxRecDepth 100000 in
set_option maxHeartbeats 2000000 in
theorem appendWords_any (l : List R) (k bx n : Nat) (s : ByteArray) (L : List ByteArray) (w : World) (hk4 : k ≤ 4) (hn : n ≤ 1000) (hl : ∀ r ∈ l, r.1.size ≤ 8) (h12 : l.length ≤ 12) (hL : listTo l k (lowS s) n ⟨#[]⟩ (0, 0) = L) (hS : WordsAt l k bx n s (· < w.heap.size) w) (hN : L.length ≤ 8589934592) :
    Calls Tryd.prog 29 #[.slice none 0 0, .func (.func 43) #[] #[.pointer (some ⟨bx, 0, none⟩)]] w fun e w' =>
      ∃ v, e = .returned v ∧ Own w.heap.size w' v 1 L.length (strs L) ∧ Below w.heap.size w w' := by
  obtain ⟨i0, hi, hz0, hz1, hz2⟩ := info_parts infoStr
  refine (callsIn_wide (n := 6)).1 ?_
  refine callsIn_of_wp_marks Tryd.func29 rfl trivial ?_ rfl
  simp only [Tryd.ntmps29, List.size_toArray, List.length_cons, List.length_nil, Nat.reduceAdd, Nat.reduceSub, Array.replicate_succ, Array.replicate_zero, List.push_toArray, List.append_toArray, List.nil_append, List.cons_append]
  gi_wp2_with fail
  have hsz : (w.alloc (.cells #[.slice none 0 0] 28)).heap.size = w.heap.size + 1 := by simp
  have R1 : Blk (w.alloc (.cells #[.slice none 0 0] 28)) w.heap.size 28 #[.slice none 0 0] := Blk.new1 _ _ _
  have b1 := bel1 w (.cells #[.slice none 0 0] 28)
  have hS1 := hS.keep (keepE_of b1 (fun _ h => h))
  generalize w.alloc (.cells #[.slice none 0 0] 28) = w1 at *
  have hst := words_stops 5 (by omega) l k bx n s (· < w.heap.size) w1 hk4 hn hl h12 hS1 (fun _ h => by show _ < w1.heap.size; omega)
  rw [hL] at hst
  refine wpIn_rangeFunc_ownH rfl (by omega) (gf := 43) (lb := #[.pointer (some ⟨bx, 0, none⟩)]) rfl trivial (enters_of Tryd.func43 (by kernel_rfl) rfl)
    hst keepE_t (keepE_b (fun _ h => by show _ < w1.heap.size; omega)) (Below.refl _ _) (fun _ => rfl)
    (fun pre W => (w.heap.size + 1 ≤ W.heap.size ∧ ∃ v, Blk W w.heap.size 28 #[v] ∧ W.ownsRow (w.heap.size + 1) 9 1 v pre.length (strs pre)) ∧ Below w.heap.size w W)
    (fun _ _ _ => False)
    (OwnFrom.and (fun _ _ _ _ h hg hr => ⟨Nat.le_trans h.1 hg.size, by obtain ⟨v, h1, h2⟩ := h.2; exact ⟨v, blk_kept h1 hg (fun r e => (hr r e).2), row_kept h2 hg (fun r e => (hr r e).2)⟩⟩) (ownFrom_below (Nat.le_refl _) (by omega)))
    (fun _ _ _ _ _ hs _ _ => hs)
    ⟨⟨by omega, _, R1, World.ownsRow_nil _ _ _ _⟩, b1⟩
    (fun x a' _ => a' = { tmps := #[.slice none 0 0, .func (.func 43) #[] #[.pointer (some ⟨bx, 0, none⟩)], .pointer (some ⟨w.heap.size, 0, none⟩), undef, .slice none 0 0, .string x, .func (.func 43) #[] #[.pointer (some ⟨bx, 0, none⟩)], .string x, undef, undef, undef, undef, undef], defers := [] })
    (fun x a' _ _ _ _ h _ _ => h)
    ?assign ?body ?done ?stop
  case assign =>
    rintro lp pre x W K ⟨⟨hws, v, h2, h3⟩, h4⟩ hK
    gi_wp2_with fail
    exact hK _ _ (KeepsFrom.refl _ _) (KeepE.refl _ _) ⟨⟨hws, v, h2, h3⟩, h4⟩ rfl
  case body =>
    rintro lp pre x a' W hl hr ⟨⟨hws, v, h2, h3⟩, h4⟩ rfl hlt
    have z0 := h2.cell 0
    gi_wp2_with (gi_at_builtin; refine wpListIn_append_own _ rfl _ _ 28 rfl (w.heap.size + 1) 9 i0 (.string ⟨#[]⟩) 1 16 Tryd.underlying28 hi hz0 hz1 hz2 rfl (by decide) _ _ _ rfl (h3.alloc _) ⟨W.heap.size, 0, none⟩ 1 1 [.string x] rfl rfl ?c1 ?c2 ?c3 ?c4 ?c5 ?_)
    case c1 =>
      intro j u hj
      match j, hj with
      | 0, hj => simp at hj; subst hj; simp [Addr.add]
    case c2 => intro u hu; simp at hu; subst hu; rfl
    case c3 => unfold maxLen; omega
    case c4 => omega
    case c5 => simp; omega
    intro v' w6 hown' hgrow _
    have hown2 : w6.ownsRow (w.heap.size + 1) 9 1 v' (pre.length + 1) (strs (pre ++ [x])) := by
      simpa [strs] using hown'
    obtain ⟨r1, r2, r3, r4, r5, r6⟩ := box_appended (D := (· < w.heap.size)) h2 (by omega) hws h3 hown2 hgrow (fun k (hk : k < _) => ⟨by omega, by omega⟩)
    have r7 := boxE_appended (v' := v') (D := (· < w.heap.size)) h2 (by decide) (by decide) (by omega) hws h3 hgrow (fun k (hk : k < _) => ⟨by omega, by omega⟩)
    obtain ⟨g4, o4, c4, hv4⟩ := (Own.of_row hown2).formR (by simp)
    subst hv4
    have y0 := r1.cell 0
    have yf := r1.frozen 0
    gi_wp2_with fail
    exact ⟨r4.from _, r7, ⟨by have := r6.size; omega, _, r2, by rw [List.length_append]; exact r3⟩, h4.trans r6⟩
  case done =>
    rintro D ys W hD rfl ⟨⟨hws, v, h2, h3⟩, h4⟩ hK
    have z0 := h2.cell 0
    gi_wp2_with fail
    refine ⟨by simp, .inl ⟨_, _, rfl, run_takeDeferred hK, ?_⟩⟩
    have hg := grownBy_putObj' W D (.deferred none)
    refine ⟨v, ?_, v, rfl, ?_, h4.trans (belowK_b (w := w) (Nat.le_refl _) _ D _ _ (by omega) hK rfl rfl)⟩
    · simp [results, Tryd.f29, go_sem]
    · have h5 := row_kept h3 hg (fun r e => by cases e; exact ⟨_, hK, rfl⟩)
      exact (Own.of_row h5).mono (by omega)
  case stop =>
    rintro D c pre W hD _ h _
    exact h.elim
set_option maxHeartbeats 800000 in
theorem collectWords_any (l : List R) (k bx n : Nat) (s : ByteArray) (L : List ByteArray) (w : World) (hk4 : k ≤ 4) (hn : n ≤ 1000) (hl : ∀ r ∈ l, r.1.size ≤ 8) (h12 : l.length ≤ 12) (hL : listTo l k (lowS s) n ⟨#[]⟩ (0, 0) = L) (hS : WordsAt l k bx n s (· < w.heap.size) w) (hN : L.length ≤ 8589934592) :
    Calls Tryd.prog 23 #[.func (.func 43) #[] #[.pointer (some ⟨bx, 0, none⟩)]] w fun e w' =>
      ∃ v, e = .returned v ∧ Own w.heap.size w' v 1 L.length (strs L) ∧ Below w.heap.size w w' := by
  have HS := Lib.hid (appendWords_any l k bx n s L w hk4 hn hl h12 hL hS hN)
  clear hS hL
  go_enter Tryd.func23, Tryd.ntmps23
  go_wp2_with fail
  refine HS.out.mono ?_
  rintro e w1 ⟨v, rfl, o1, b1⟩
  go_wp2_with fail
  go_ret
  exact ⟨v, rfl, o1, b1⟩
end Go.Proofs.YtfkojahoaljiaaaDoor

namespace Go.Proofs.YtfkojahoaljiaaaDoor
open Go.RowKit Go.Maps

theorem ret_vb {v : Value} {a b : Bool} (h : a = b) : Ending.returned (.tuple #[v, .bool a]) = .returned (.tuple #[v, .bool b]) := by rw [h]
/-- May the reduced words of x letters be listed? -/
def redOk (k : Int) (l : List R) (x : Int) : Bool := canC k l x && decide (countN l k.toNat x.toNat ≤ 256)
def redL (k : Int) (l : List R) (x : Int) : List ByteArray := if redOk k l x then lvl l k.toNat x.toNat else []
theorem redOk_no {k : Int} {l : List R} {x : Int} (h : canC k l x = false) : redOk k l x = false := by unfold redOk; rw [h, Bool.false_and]
theorem redOk_yes {k x : Nat} {l : List R} (h : canC k l x = true) : redOk k l x = decide (countN l k x ≤ 256) := by unfold redOk; rw [h, Bool.true_and]; rfl
theorem redL_no {k : Int} {l : List R} {x : Int} (h : redOk k l x = false) : redL k l x = [] := by unfold redL; rw [h]; rfl
theorem redL_yes {k x : Nat} {l : List R} (h : redOk k l x = true) : redL k l x = lvl l k x := by unfold redL; rw [if_pos h]; rfl
theorem redL_len (k : Int) (l : List R) (x : Int) : (redL k l x).length ≤ 256 := by
  unfold redL
  split
  · rename_i h
    unfold redOk at h
    rw [Bool.and_eq_true, decide_eq_true_eq] at h
    rw [lvl_len]; exact h.2
  · simp
theorem lowS_empty (b : ByteArray) : lowS ⟨#[]⟩ b = false := by
  unfold lowS
  have h : ((⟨#[]⟩ : ByteArray).extract 0 (min (⟨#[]⟩ : ByteArray).size b.size)).toList = [] := by
    rw [toList_data, show min (⟨#[]⟩ : ByteArray).size b.size = 0 from Nat.zero_min _, extract_beg]; rfl
  rw [h]
  cases b.toList <;> rfl
theorem listTo_empty (l : List R) (k n : Nat) : listTo l k (lowS ⟨#[]⟩) n ⟨#[]⟩ (0, 0) = lvl l k n := by
  rw [show lowS ⟨#[]⟩ = fun _ => false from funext lowS_empty]; exact listTo_lvl l k n
set_option maxRecDepth 100000 in
set_option maxHeartbeats 1600000 in
theorem implReducedWords (k : Int) (A : Option Addr) (n c B : Nat) (l : List R) (x : Int) (w : World) (h : Own B w (.slice A n c) 2 n (rulesC l)) (hsm : smallR l) (hlet : Let w) :
    Calls Tryd.prog 7 #[.agg #[.int .i64 k, .slice A n c], .int .i64 x] w fun e w' => ∃ v, e = .returned (.tuple #[v, .bool (redOk k l x)]) ∧ Own w.heap.size w' v 1 (redL k l x).length (strs (redL k l x)) ∧ Below w.heap.size w w' := by
  have HO := Lib.hid h
  have HL := Lib.hid hlet
  clear h hlet
  go_enter Tryd.func7, Tryd.ntmps7
  go_wp2_with fail
  refine (canCount_any k A n c B l x _ (HO.out.below (bel1 w _)) hsm (HL.out.keep (bel1 w _) (Nat.le_refl _))).mono ?_
  rintro e w1 ⟨rfl, hb1⟩
  have b1 := (bel1 w _).trans (hb1.mono (by simp))
  have HS1 := Lib.hid ((Blk.new1 w #[.int .i64 k, .slice A n c] 25).below hb1 (by simp))
  obtain ⟨q0, q1, -, -, ql⟩ := HS1.out.two
  clear hb1
  cases h1 : canC k l x
  · have HF := Lib.hid (redOk_no h1)
    have HG := Lib.hid (redL_no (redOk_no h1))
    clear h1
    go_wp2_with fail
    go_ret2
    exact ⟨_, ret_vb HF.out.symm, by rw [HG.out]; exact Own.none_, b1⟩
  · obtain ⟨k, x, rfl, rfl, hk1, hk4, hx, h12, hl⟩ := canC_parts h1
    have HC := Lib.hid h1
    have Hl := Lib.hid (fun r (hr : r ∈ l) => (hl r hr).1)
    have H12 := Lib.hid h12
    clear h1 hl h12
    go_wp2_with fail
    refine (languageOf_any k A n c B l w1 (HO.out.below b1) Hl.out H12.out hk4 (HL.out.keep b1 (Nat.le_refl _))).mono ?_
    rintro e w2 ⟨gL, mA, Q, rfl, hLS, hQ, hb2⟩
    have b2 := b1.trans (hb2.mono b1.size)
    have HLS := Lib.hid hLS
    have HQ := Lib.hid hQ
    clear hb2 hLS hQ q0 q1
    go_wp2_with fail
    refine (growth_any k l w1.heap.size gL mA 1000 x Q w2 Hl.out H12.out hk4 HQ.out (HL.out.keep b2 (Nat.le_refl _)) HLS.out (by omega)).mono ?_
    rintro e w3 ⟨v3, rfl, o3, hb3⟩
    have b3 := b2.trans (hb3.mono b2.size)
    have HL3 := Lib.hid (HLS.out.below hb3)
    obtain ⟨A3, c3, rfl⟩ := o3.form
    obtain ⟨g, off, hA3, -, hgl, hcell⟩ := o3.int (by omega)
    subst hA3
    obtain ⟨y, hy, x0, -⟩ := hcell x (by omega)
    rw [growL_get l k _ x (by omega)] at hy
    injection hy with hy
    subst hy
    have hcn : countN l k x ≤ 4294967296 := by rw [← lvl_len]; exact lvl_16 l k x hk4 hx
    rw [wr_small hcn] at x0
    have HE := Lib.hid (redOk_yes HC.out)
    have Hcn := Lib.hid hcn
    clear hcell o3 hb3 hcn
    by_cases hc : countN l k x ≤ 256
    · have HG := Lib.hid (redL_yes (show redOk (k : Int) l (x : Int) = true by rw [HE.out]; exact decide_eq_true hc))
      have HE2 := Lib.hid (show redOk (k : Int) l (x : Int) = true by rw [HE.out]; exact decide_eq_true hc)
      generalize countN l k x = CN at *
      go_wp2_with fail
      refine (words_any k l w1.heap.size gL mA 1000 x ⟨#[]⟩ Q w3 Hl.out H12.out hk4 HQ.out (HL.out.keep b3 (Nat.le_refl _)) HL3.out (by omega)).mono ?_
      rintro e w4 ⟨bx, rfl, hWA, hb4⟩
      have b4 := b3.trans (hb4.mono b3.size)
      have HWA := Lib.hid hWA
      clear hb4 hWA x0
      go_wp2_with fail
      refine (collectWords_any l k bx x ⟨#[]⟩ _ w4 hk4 (by omega) Hl.out H12.out (listTo_empty l k x) HWA.out (by have := lvl_16 l k x hk4 hx; omega)).mono ?_
      rintro e w5 ⟨v5, rfl, o5, hb5⟩
      have b5 := b4.trans (hb5.mono b4.size)
      have O5 := Lib.hid (o5.mono b4.size)
      obtain ⟨A5, c5, rfl⟩ := o5.form
      clear o5 hb5
      go_wp2_with fail
      go_ret2
      exact ⟨_, ret_vb HE2.out.symm, by rw [HG.out]; exact O5.out, b5⟩
    · have HE2 := Lib.hid (show redOk (k : Int) l (x : Int) = false by rw [HE.out]; exact decide_eq_false hc)
      have HG := Lib.hid (redL_no HE2.out)
      generalize countN l k x = CN at *
      go_wp2_with fail
      go_ret2
      exact ⟨_, ret_vb HE2.out.symm, by rw [HG.out]; exact Own.none_, b3⟩
end Go.Proofs.YtfkojahoaljiaaaDoor

namespace Go.Proofs.YtfkojahoaljiaaaDoor
open Go.RowKit

/-- What the model's search leaves out: v and r letters more are as many as s has, and v comes before the beginning of s. -/
def lowQ (s v : ByteArray) (r : Nat) : Bool := decide (v.size + r = s.size) && Op.bytesLess v.toList (s.extract 0 v.size).toList
/-- The words that it comes to, r letters behind u. -/
def seekL (l : List R) (k : Nat) (s : ByteArray) : Nat → ByteArray → List ByteArray
  | 0, u => if lessS s u then [u] else []
  | r + 1, u => (List.range k).flatMap fun j => if (hitS l (ext1 u j) || lowQ s (ext1 u j) r) then [] else seekL l k s r (ext1 u j)
def seekAt (l : List R) (k : Nat) (s : ByteArray) (r : Nat) (u : ByteArray) (j : Nat) : List ByteArray := (List.range j).flatMap fun j => if (hitS l (ext1 u j) || lowQ s (ext1 u j) r) then [] else seekL l k s r (ext1 u j)
theorem seekL_succ (l : List R) (k : Nat) (s : ByteArray) (r : Nat) (u : ByteArray) : seekL l k s (r + 1) u = seekAt l k s r u k := rfl
theorem seekAt_skip {l : List R} {k r j : Nat} {s u : ByteArray} (h : (hitS l (ext1 u j) || lowQ s (ext1 u j) r) = true) : seekAt l k s r u (j + 1) = seekAt l k s r u j := by
  unfold seekAt
  rw [List.range_succ, List.flatMap_append, List.flatMap_singleton, if_pos h, List.append_nil]
theorem seekAt_take {l : List R} {k r j : Nat} {s u : ByteArray} (h : (hitS l (ext1 u j) || lowQ s (ext1 u j) r) = false) : seekAt l k s r u (j + 1) = seekAt l k s r u j ++ seekL l k s r (ext1 u j) := by
  unfold seekAt
  rw [List.range_succ, List.flatMap_append, List.flatMap_singleton, if_neg (by rw [h]; simp)]
theorem seekAt_more (l : List R) (k : Nat) (s : ByteArray) (r : Nat) (u : ByteArray) (j : Nat) : ∀ i, ∃ M, seekAt l k s r u (j + i) = seekAt l k s r u j ++ M
  | 0 => ⟨[], by simp⟩
  | i + 1 => by
    obtain ⟨M, hM⟩ := seekAt_more l k s r u j i
    cases h : (hitS l (ext1 u (j + i)) || lowQ s (ext1 u (j + i)) r)
    · exact ⟨M ++ seekL l k s r (ext1 u (j + i)), by rw [← Nat.add_assoc, seekAt_take h, hM, List.append_assoc]⟩
    · exact ⟨M, by rw [← Nat.add_assoc, seekAt_skip h, hM]⟩
def hdS (L : List ByteArray) : ByteArray := L.headD ⟨#[]⟩
/-- The first word found at letter j is the first of all. -/
theorem seek_found {l : List R} {k r j : Nat} {s u : ByteArray} (hj : j < k) (h0 : seekAt l k s r u j = []) (h1 : (hitS l (ext1 u j) || lowQ s (ext1 u j) r) = false) (h2 : seekL l k s r (ext1 u j) ≠ []) :
    hdS (seekL l k s (r + 1) u) = hdS (seekL l k s r (ext1 u j)) ∧ seekL l k s (r + 1) u ≠ [] := by
  obtain ⟨M, hM⟩ := seekAt_more l k s r u (j + 1) (k - (j + 1))
  rw [show j + 1 + (k - (j + 1)) = k from by omega, seekAt_take h1, h0, List.nil_append] at hM
  rw [seekL_succ, hM]
  cases h : seekL l k s r (ext1 u j) with
  | nil => exact absurd h h2
  | cons a L => exact ⟨rfl, by simp⟩
theorem lowQ_low {s v : ByteArray} {r : Nat} (h : v.size + r = s.size) : lowQ s v r = lowS s v := by
  unfold lowQ lowS
  rw [decide_eq_true h, Bool.true_and, show min s.size v.size = v.size from by omega]
theorem lowQ_long {s v : ByteArray} {r : Nat} (h : s.size < v.size + r) : lowQ s v r = false := by
  unfold lowQ
  rw [decide_eq_false (by omega), Bool.false_and]
theorem listTo_sub (l : List R) (k : Nat) (low : ByteArray → Bool) : ∀ (r : Nat) (u : ByteArray) (e : E), (listTo l k low r u e).Sublist (listTo l k (fun _ => false) r u e)
  | 0, _, _ => List.Sublist.refl _
  | r + 1, u, e => by
    rw [listTo_succ, listTo_succ]
    have : ∀ j, (listAt l k low r u e j).Sublist (listAt l k (fun _ => false) r u e j) := by
      intro j
      induction j with
      | zero => exact List.Sublist.refl _
      | succ j ih =>
        cases hn : nxtS l e j with
        | none => rw [listAt_none hn, listAt_none hn]; exact ih
        | some e' =>
          rcases Nat.eq_zero_or_pos (cntE l k r e') with h0 | h0
          · rw [listAt_skip hn (fun h => by omega), listAt_skip hn (fun h => by omega)]; exact ih
          · rw [listAt_take (low := fun _ => false) hn h0 rfl]
            cases hw : low (ext1 u j)
            · rw [listAt_take hn h0 hw]
              exact List.Sublist.append ih (listTo_sub l k low r (ext1 u j) e')
            · rw [listAt_skip hn (fun h => by rw [hw] at h; cases h.2)]
              exact ih.trans (List.sublist_append_left _ _)
    exact this k
theorem listTo_none {l : List R} {k : Nat} {low : ByteArray → Bool} {r : Nat} {u : ByteArray} {e : E} (h : cntE l k r e = 0) : listTo l k low r u e = [] := by
  have h1 := (listTo_sub l k low r u e).length_le
  rw [listTo_len, h] at h1
  exact List.eq_nil_of_length_eq_zero (by omega)
/-- Words as long as s: the model's search and the program's listing. -/
theorem seek_list (l : List R) (k : Nat) (s : ByteArray) : ∀ (r : Nat) (u : ByteArray) (e : E), Fits l u e → u.size + r = s.size → seekL l k s r u = (listTo l k (lowS s) r u e).filter (lessS s)
  | 0, u, e, _, _ => by
    show (if lessS s u then [u] else []) = [u].filter (lessS s)
    cases h : lessS s u <;> simp [h]
  | r + 1, u, e, hf, hs => by
    rw [seekL_succ, listTo_succ]
    have : ∀ j, seekAt l k s r u j = (listAt l k (lowS s) r u e j).filter (lessS s) := by
      intro j
      induction j with
      | zero => rfl
      | succ j ih =>
        have hh := fits_hit hf j
        have hsz : (ext1 u j).size + r = s.size := by rw [ext1_size]; omega
        have hq := lowQ_low hsz
        cases h1 : hitS l (ext1 (textE l e) j)
        · obtain ⟨e', hn⟩ := nxt_new h1
          cases h2 : lowS s (ext1 u j)
          · rw [seekAt_take (by rw [hh, h1, hq, h2]; rfl), seek_list l k s r (ext1 u j) e' (fits_next hf hn) hsz, ih]
            rcases Nat.eq_zero_or_pos (cntE l k r e') with h0 | h0
            · rw [listAt_skip hn (fun h => by omega), listTo_none h0, List.filter_nil, List.append_nil]
            · rw [listAt_take hn h0 h2, List.filter_append]
          · rw [seekAt_skip (by rw [hq, h2, Bool.or_true]), listAt_skip hn (fun h => by rw [h2] at h; cases h.2), ih]
        · rw [seekAt_skip (by rw [hh, h1]; rfl), listAt_none (nxt_hit h1), ih]
    exact this k
/-- Longer words. -/
theorem seek_long (l : List R) (k : Nat) (s : ByteArray) : ∀ (r : Nat) (u : ByteArray), s.size < u.size + r → seekL l k s r u = dfs l k r u
  | 0, u, h => by
    show (if lessS s u then [u] else []) = [u]
    rw [if_pos (by rw [lessS_ne s u (by omega)]; exact decide_eq_true (by omega))]
  | r + 1, u, h => by
    rw [seekL_succ]
    show _ = (kidTo l u k).flatMap (dfs l k r)
    have : ∀ j, seekAt l k s r u j = (kidTo l u j).flatMap (dfs l k r) := by
      intro j
      induction j with
      | zero => rfl
      | succ j ih =>
        have hsz : s.size < (ext1 u j).size + r := by rw [ext1_size]; omega
        have hq := lowQ_long hsz
        cases h1 : hitS l (ext1 u j)
        · rw [seekAt_take (by rw [h1, hq]; rfl), kidTo_new h1, List.flatMap_append, List.flatMap_singleton, ih, seek_long l k s r _ hsz]
        · rw [seekAt_skip (by rw [h1]; rfl), kidTo_hit h1, ih]
    exact this k
theorem listTo_low {l : List R} {k : Nat} {low : ByteArray → Bool} : ∀ (r : Nat) (u : ByteArray) (e : E), low u = false → ∀ v ∈ listTo l k low r u e, low v = false ∧ v.size = u.size + r
  | 0, u, e, h, v, hv => by
    rw [show listTo l k low 0 u e = [u] from rfl, List.mem_singleton] at hv
    subst hv; exact ⟨h, rfl⟩
  | r + 1, u, e, h, v, hv => by
    rw [listTo_succ] at hv
    have : ∀ j, v ∈ listAt l k low r u e j → low v = false ∧ v.size = u.size + (r + 1) := by
      intro j
      induction j with
      | zero => intro h; simp [listAt] at h
      | succ j ih =>
        intro hv
        cases hn : nxtS l e j with
        | none => rw [listAt_none hn] at hv; exact ih hv
        | some e' =>
          by_cases h0 : 0 < cntE l k r e' ∧ low (ext1 u j) = false
          · rw [listAt_take hn h0.1 h0.2, List.mem_append] at hv
            rcases hv with hv | hv
            · exact ih hv
            · obtain ⟨a, b⟩ := listTo_low r (ext1 u j) e' h0.2 v hv
              exact ⟨a, by rw [b, ext1_size]; omega⟩
          · rw [listAt_skip hn h0] at hv; exact ih hv
    exact this k hv
/-- Of the words from s on, those behind s are those that are not s. -/
theorem list_ne {l : List R} {k : Nat} {s v : ByteArray} (h : v ∈ listTo l k (lowS s) s.size ⟨#[]⟩ (0, 0)) : lessS s v = !decide (v = s) := by
  have h0 : lowS s ⟨#[]⟩ = false := by
    unfold lowS
    rw [toList_data, toList_data, show min s.size (⟨#[]⟩ : ByteArray).size = 0 from Nat.min_zero _, extract_beg]; rfl
  obtain ⟨h1, h2⟩ := listTo_low _ _ _ h0 v h
  have h2 : v.size = s.size := by rw [h2]; exact Nat.zero_add _
  by_cases hv : v = s
  · subst hv; rw [lessS_irrefl, decide_eq_true rfl]; rfl
  · rw [decide_eq_false hv]
    cases h3 : lessS s v
    · refine absurd (lessS_total v s ?_ h3) hv
      rw [lessS_eq v s h2]
      unfold lowS at h1
      rw [toList_data, toList_data, h2, Nat.min_self, extract_beg, List.take_of_length_le (by rw [Array.length_toList]; exact Nat.le_refl _)] at h1
      exact h1
    · rfl
def nxtW (l : List R) (k : Nat) (s : ByteArray) : List ByteArray := (listTo l k (lowS s) s.size ⟨#[]⟩ (0, 0)).filter (lessS s)
def nextC (k : Int) (l : List R) (s : ByteArray) : List ByteArray := if canRed k l s then nxtW l k.toNat s ++ (if s.size < 16 then lvl l k.toNat (s.size + 1) else []) else []
theorem nextC_no {k : Int} {l : List R} {s : ByteArray} (h : canRed k l s = false) : nextC k l s = [] := by unfold nextC; rw [h]; rfl
theorem nextC_same {k : Nat} {l : List R} {s : ByteArray} (h : canRed k l s = true) (h1 : nxtW l k s ≠ []) : hdS (nextC k l s) = hdS (nxtW l k s) ∧ nextC k l s ≠ [] := by
  unfold nextC
  rw [if_pos h, Int.toNat_natCast]
  cases h2 : nxtW l k s with
  | nil => exact absurd h2 h1
  | cons a L => exact ⟨rfl, by simp⟩
theorem nextC_more {k : Nat} {l : List R} {s : ByteArray} (h : canRed k l s = true) (h1 : nxtW l k s = []) (hs : s.size < 16) : nextC k l s = lvl l k (s.size + 1) := by
  unfold nextC
  rw [if_pos h, Int.toNat_natCast, h1, if_pos hs, List.nil_append]
theorem nextC_end {k : Nat} {l : List R} {s : ByteArray} (h : canRed k l s = true) (h1 : nxtW l k s = []) (hs : ¬ s.size < 16) : nextC k l s = [] := by
  unfold nextC
  rw [if_pos h, Int.toNat_natCast, h1, if_neg hs, List.nil_append]
theorem nxtW_seek (l : List R) (k : Nat) (s : ByteArray) : seekL l k s s.size ⟨#[]⟩ = nxtW l k s := seek_list l k s _ _ _ (fits_zero l) (Nat.zero_add _)
theorem lvl_seek (l : List R) (k : Nat) (s : ByteArray) : seekL l k s (s.size + 1) ⟨#[]⟩ = lvl l k (s.size + 1) := by
  rw [seek_long l k s _ _ (by show _ < 0 + _; omega), lvl_dfs]
theorem nxtW_nil {l : List R} {k : Nat} {s : ByteArray} (h : lvl l k s.size = []) : nxtW l k s = [] ∧ lvl l k (s.size + 1) = [] := by
  constructor
  · unfold nxtW
    have h1 := (listTo_sub l k (lowS s) s.size ⟨#[]⟩ (0, 0)).length_le
    rw [listTo_lvl, h] at h1
    rw [List.eq_nil_of_length_eq_zero (Nat.le_zero.1 h1)]; rfl
  · show kids l k (lvl l k s.size) = []
    rw [h]; rfl
end Go.Proofs.YtfkojahoaljiaaaDoor

namespace Go.Proofs.YtfkojahoaljiaaaDoor
open Go.RowKit

def lessB (a b : ByteArray) : Prop := Op.bytesLess a.data.toList b.data.toList = true
theorem bl_pre : ∀ p q x y : List UInt8, p.length = q.length → Op.bytesLess p q = true → Op.bytesLess (p ++ x) (q ++ y) = true
  | [], [], _, _, _, h => by simp [bl_irrefl] at h
  | a :: p, b :: q, x, y, hl, h => by
    rw [List.cons_append, List.cons_append, bl_true]
    rcases (bl_true a b p q).1 h with h | ⟨h1, h2⟩
    · exact .inl h
    · exact .inr ⟨h1, bl_pre p q x y (by simpa using hl) h2⟩
theorem kidTo_mem {l : List R} {u v : ByteArray} : ∀ j, v ∈ kidTo l u j → ∃ x, x < j ∧ v = ext1 u x
  | 0, h => by simp [kidTo] at h
  | j + 1, h => by
    cases hh : hitS l (ext1 u j)
    · rw [kidTo_new hh, List.mem_append] at h
      rcases h with h | h
      · obtain ⟨x, a, b⟩ := kidTo_mem j h; exact ⟨x, by omega, b⟩
      · simp at h; exact ⟨j, by omega, h⟩
    · rw [kidTo_hit hh] at h; obtain ⟨x, a, b⟩ := kidTo_mem j h; exact ⟨x, by omega, b⟩
theorem dfs_pre {l : List R} {k : Nat} : ∀ (r : Nat) (u v : ByteArray), v ∈ dfs l k r u → ∃ t, v.data.toList = u.data.toList ++ t ∧ t.length = r
  | 0, u, v, h => by
    rw [show dfs l k 0 u = [u] from rfl, List.mem_singleton] at h
    subst h; exact ⟨[], by simp, rfl⟩
  | r + 1, u, v, h => by
    obtain ⟨u', h1, h2⟩ := List.mem_flatMap.1 (show v ∈ (kidTo l u k).flatMap (dfs l k r) from h)
    obtain ⟨x, -, rfl⟩ := kidTo_mem k h1
    obtain ⟨t, h3, h4⟩ := dfs_pre r _ v h2
    exact ⟨letC x :: t, by rw [h3, ext1_list]; simp, by simp [h4]⟩
theorem dfs_sorted (l : List R) (k : Nat) (hk : k ≤ 4) : ∀ (r : Nat) (u : ByteArray), (dfs l k r u).Pairwise lessB
  | 0, u => List.pairwise_singleton _ _
  | r + 1, u => by
    have : ∀ j, j ≤ k → ((kidTo l u j).flatMap (dfs l k r)).Pairwise lessB := by
      intro j
      induction j with
      | zero => intro _; exact List.Pairwise.nil
      | succ j ih =>
        intro hj
        cases hh : hitS l (ext1 u j)
        · rw [kidTo_new hh, List.flatMap_append, List.flatMap_singleton, List.pairwise_append]
          refine ⟨ih (by omega), dfs_sorted l k hk r _, fun a ha b hb => ?_⟩
          obtain ⟨u', h1, h2⟩ := List.mem_flatMap.1 ha
          obtain ⟨x, hx, rfl⟩ := kidTo_mem j h1
          obtain ⟨t, h3, -⟩ := dfs_pre r _ a h2
          obtain ⟨t', h4, -⟩ := dfs_pre r _ b hb
          unfold lessB
          rw [h3, h4, ext1_list, ext1_list, List.append_assoc, List.append_assoc, bl_left, List.singleton_append, List.singleton_append, bl_true]
          refine .inl ?_
          unfold letC
          rw [UInt8.toNat_ofNat', UInt8.toNat_ofNat']; omega
        · rw [kidTo_hit hh]; exact ih (by omega)
    exact this k (Nat.le_refl k)
theorem lvl_sorted (l : List R) (k n : Nat) (hk : k ≤ 4) : (lvl l k n).Pairwise lessB := by rw [lvl_dfs]; exact dfs_sorted l k hk n _
/-- What is left out comes before s. -/
theorem low_past {s u v : ByteArray} {t : List UInt8} (h : lowS s u = true) (hv : v.data.toList = u.data.toList ++ t) (hs : v.size = s.size) : lessS s v = false := by
  have hvl : v.data.toList.length = v.size := by rw [Array.length_toList]; rfl
  have hul : u.data.toList.length = u.size := by rw [Array.length_toList]; rfl
  have hsl : s.data.toList.length = s.size := by rw [Array.length_toList]; rfl
  have hle : u.size ≤ s.size := by rw [← hs, ← hvl, hv, List.length_append]; omega
  unfold lowS at h
  rw [toList_data, toList_data, extract_beg, show min s.size u.size = u.size from by omega] at h
  rw [lessS_eq s v hs.symm]
  refine bl_asymm _ _ ?_
  rw [hv, ← List.take_append_drop u.size s.data.toList]
  exact bl_pre _ _ _ _ (by rw [List.length_take]; omega) h
theorem listTo_all {l : List R} {k : Nat} {s : ByteArray} : ∀ (r : Nat) (u : ByteArray) (e : E), Fits l u e → u.size + r = s.size → (listTo l k (lowS s) r u e).filter (lessS s) = (listTo l k (fun _ => false) r u e).filter (lessS s)
  | 0, _, _, _, _ => rfl
  | r + 1, u, e, hf, hs => by
    rw [listTo_succ, listTo_succ]
    have : ∀ j, (listAt l k (lowS s) r u e j).filter (lessS s) = (listAt l k (fun _ => false) r u e j).filter (lessS s) := by
      intro j
      induction j with
      | zero => rfl
      | succ j ih =>
        cases hn : nxtS l e j with
        | none => rw [listAt_none hn, listAt_none hn]; exact ih
        | some e' =>
          have hsz : (ext1 u j).size + r = s.size := by rw [ext1_size]; omega
          rcases Nat.eq_zero_or_pos (cntE l k r e') with h0 | h0
          · rw [listAt_skip hn (fun h => by omega), listAt_skip hn (fun h => by omega)]; exact ih
          · rw [listAt_take (low := fun _ => false) hn h0 rfl, List.filter_append, ← ih]
            cases hw : lowS s (ext1 u j)
            · rw [listAt_take hn h0 hw, List.filter_append, listTo_all r (ext1 u j) e' (fits_next hf hn) hsz]
            · rw [listAt_skip hn (fun h => by rw [hw] at h; cases h.2)]
              rw [listTo_dfs l k r _ _ (fits_next hf hn)]
              have hnil : (dfs l k r (ext1 u j)).filter (lessS s) = [] := by
                refine List.filter_eq_nil_iff.2 (fun v hv => ?_)
                obtain ⟨t, h1, h2⟩ := dfs_pre r _ v hv
                have hz : v.size = s.size := by
                  have h3 := congrArg List.length h1
                  rw [List.length_append, Array.length_toList, Array.length_toList, h2] at h3
                  rw [← hsz]; exact h3
                rw [low_past hw h1 hz]; simp
              rw [hnil, List.append_nil]
    exact this k
theorem nxtW_all (l : List R) (k : Nat) (s : ByteArray) : nxtW l k s = (lvl l k s.size).filter (lessS s) := by
  unfold nxtW
  rw [listTo_all _ _ _ (fits_zero l) (Nat.zero_add _), listTo_lvl]
theorem filter_sorted : ∀ (L : List ByteArray) (i : Nat) (w : ByteArray), L.Pairwise lessB → (∀ v ∈ L, v.size = w.size) → L[i]? = some w → L.filter (lessS w) = L.drop (i + 1)
  | [], i, w, _, _, h => by simp at h
  | a :: L, 0, w, hp, hs, h => by
    simp at h; subst h
    rw [List.filter_cons, lessS_irrefl]
    have h1 := (List.pairwise_cons.1 hp).1
    have h2 : L.filter (lessS a) = L := List.filter_eq_self.2 (fun v hv => by rw [lessS_eq a v (hs v (List.mem_cons_of_mem _ hv)).symm]; exact h1 v hv)
    simpa using h2
  | a :: L, i + 1, w, hp, hs, h => by
    have hi : L[i]? = some w := by simpa using h
    have h1 := (List.pairwise_cons.1 hp).1 w (List.mem_of_getElem? hi)
    have h2 : lessS w a = false := by
      rw [lessS_eq w a (hs a (List.mem_cons_self ..)).symm]
      exact bl_asymm _ _ h1
    rw [List.filter_cons, h2]
    have := filter_sorted L i w (List.pairwise_cons.1 hp).2 (fun v hv => hs v (List.mem_cons_of_mem _ hv)) hi
    simpa using this
/-- Behind the word i of the list stand those from i + 1 on. -/
theorem nxtW_at {l : List R} {k n i : Nat} {w : ByteArray} (hk : k ≤ 4) (h : (lvl l k n)[i]? = some w) : nxtW l k w = (lvl l k n).drop (i + 1) := by
  have hw := lvl_size n w (List.mem_of_getElem? h)
  rw [nxtW_all, hw]
  exact filter_sorted _ i w (lvl_sorted l k n hk) (fun v hv => by rw [lvl_size n v hv, hw]) h
end Go.Proofs.YtfkojahoaljiaaaDoor

namespace Go.Proofs.YtfkojahoaljiaaaDoor
open Go.RowKit

theorem dfs_clean {l : List R} {k : Nat} : ∀ (r : Nat) (u v : ByteArray), v ∈ dfs l k r u → ∀ m, u.size < m → m ≤ v.size → endsW (lefts l) (v.data.toList.take m) = false
  | 0, u, v, h, m, h1, h2 => by
    rw [show dfs l k 0 u = [u] from rfl, List.mem_singleton] at h
    subst h; omega
  | r + 1, u, v, h, m, h1, h2 => by
    obtain ⟨u', h3, h4⟩ := List.mem_flatMap.1 (show v ∈ (kidTo l u k).flatMap (dfs l k r) from h)
    have hu' : hitS l u' = false := by
      unfold kidTo at h3
      obtain ⟨x, -, h5⟩ := List.mem_flatMap.1 h3
      cases hh : hitS l (ext1 u x)
      · rw [hh] at h5; simp at h5; subst h5; exact hh
      · rw [hh] at h5; simp at h5
    have hs := kidTo_size k h3
    by_cases hm : m = u.size + 1
    · obtain ⟨t, h5, -⟩ := dfs_pre r _ v h4
      have h6 : v.data.toList.take m = u'.data.toList := by
        rw [h5, hm, ← hs]
        exact List.take_left' (by rw [Array.length_toList]; rfl)
      rw [h6, ← hitS_ends]; exact hu'
    · exact dfs_clean r u' v h4 m (by omega) h2
theorem lvl_clean {l : List R} {k n : Nat} {v : ByteArray} (h : v ∈ lvl l k n) (m : Nat) (h1 : 0 < m) (h2 : m ≤ v.size) : endsW (lefts l) (v.data.toList.take m) = false := by
  rw [lvl_dfs] at h
  exact dfs_clean n _ v h m h1 h2
theorem dfs_written {l : List R} {k : Nat} (hk : k ≤ 4) : ∀ (r : Nat) (u v : ByteArray), written k u = true → v ∈ dfs l k r u → written k v = true
  | 0, u, v, hu, h => by
    rw [show dfs l k 0 u = [u] from rfl, List.mem_singleton] at h
    subst h; exact hu
  | r + 1, u, v, hu, h => by
    obtain ⟨u', h3, h4⟩ := List.mem_flatMap.1 (show v ∈ (kidTo l u k).flatMap (dfs l k r) from h)
    obtain ⟨x, hx, rfl⟩ := kidTo_mem k h3
    refine dfs_written hk r _ v ?_ h4
    unfold ext1
    rw [written_append, hu, written_one k x hx hk]; rfl
theorem lvl_written {l : List R} {k n : Nat} {v : ByteArray} (hk : k ≤ 4) (h : v ∈ lvl l k n) : written k v = true := by
  rw [lvl_dfs] at h
  exact dfs_written hk n _ v (written_nil k) h
/-- No left side lies in a listed word. -/
theorem lvl_apart {l : List R} {k n : Nat} {v : ByteArray} (h : v ∈ lvl l k n) {r : R} (hr : r ∈ l) (h0 : 0 < r.1.size) (i : Nat) : atP v r.1 i = false := by
  cases ha : atP v r.1 i
  · rfl
  · unfold atP at ha
    rw [Bool.and_eq_true, decide_eq_true_eq, beq_iff_eq, toList_data, toList_data] at ha
    obtain ⟨h1, h2⟩ := ha
    have h3 := lvl_clean h (i + r.1.size) (by omega) h1
    have h4 : endsW (lefts l) (v.data.toList.take (i + r.1.size)) = true := by
      rw [endsW_iff]
      refine ⟨_, mem_lefts.2 ⟨r, hr, rfl⟩, ⟨v.data.toList.take i, ?_⟩⟩
      rw [← h2]
      have h5 : (v.extract i (i + r.1.size)).data.toList = (v.data.toList.take (i + r.1.size)).drop i := by
        rw [ByteArray.data_extract, Array.toList_extract, List.extract_eq_take_drop, List.drop_take, Nat.add_sub_cancel_left]
      rw [h5]
      have h6 : v.data.toList.take i = (v.data.toList.take (i + r.1.size)).take i := by rw [List.take_take, show min i (i + r.1.size) = i from by omega]
      rw [h6, List.take_append_drop]
    rw [h4] at h3; cases h3
theorem stepsD_none {l : List R} {k n : Nat} {v : ByteArray} (h : v ∈ lvl l k n) (hl : ∀ r ∈ l, 0 < r.1.size) (d : Int) : stepsD l v d = [] := by
  rw [List.eq_nil_iff_forall_not_mem]
  intro x hx
  rw [mem_stepsD] at hx
  unfold isStepB fitsB at hx
  rw [Bool.and_eq_true] at hx
  cases hg : l[x.1.toNat]? with
  | none => rw [hg] at hx; cases hx.2
  | some r =>
    rw [hg] at hx
    have := lvl_apart h (List.mem_of_getElem? hg) (hl r (List.mem_of_getElem? hg)) x.2.toNat
    rw [show atP v r.1 x.2.toNat = true from hx.2] at this
    cases this
end Go.Proofs.YtfkojahoaljiaaaDoor

namespace Go.Proofs.YtfkojahoaljiaaaDoor
open Go.RowKit

/-- What a search answers for a list of words. -/
def Found (L : List ByteArray) (y : ByteArray) (b : Bool) : Prop := (b = true ∧ L ≠ [] ∧ y = hdS L) ∨ (b = false ∧ L = [])
end Go.Proofs.YtfkojahoaljiaaaDoor

namespace Go.Proofs.YtfkojahoaljiaaaDoor
open Go.RowKit

theorem countR_few {k x : Nat} {l : List R} (h : canC k l x = true) (hk : k ≤ 4) (hx : x ≤ 16) : countR k l x = (countN l k x : Nat) := by
  rw [countR_yes h, wr_small (by rw [← lvl_len]; exact lvl_16 l k x hk hx)]
theorem ret_found {L : List ByteArray} {y : ByteArray} {b : Bool} (h : (b = true ∧ L ≠ [] ∧ y = hdS L) ∨ (b = false ∧ y = ⟨#[]⟩ ∧ L = [])) : Ending.returned (.tuple #[.string y, .bool b]) = .returned (.tuple #[.string (hdS L), .bool (!L.isEmpty)]) := by
  rcases h with ⟨rfl, h, rfl⟩ | ⟨rfl, rfl, rfl⟩
  · cases L with
    | nil => exact absurd rfl h
    | cons a L => rfl
  · rfl
theorem canRed_parts {k : Int} {l : List R} {s : ByteArray} (h : canRed k l s = true) : ∃ k' : Nat, k = k' ∧ k' ≤ 4 ∧ s.size ≤ 16 ∧ (∀ x : Nat, x ≤ 16 → canC k l x = true) ∧ l.length ≤ 12 ∧ ∀ r ∈ l, r.1.size ≤ 8 ∧ 0 < r.1.size := by
  have hw := canRed_word h
  have hs : systemOk k l = true := by unfold canRed at h; rw [Bool.and_eq_true] at h; exact h.1
  have hc : ∀ x : Nat, x ≤ 16 → canC k l x = true := fun x hx => by unfold canC; rw [hs, Bool.true_and]; exact decide_eq_true (by omega)
  obtain ⟨k', x, rfl, -, -, h4, -, h12, hl⟩ := canC_parts (hc 0 (by omega))
  refine ⟨k', rfl, h4, ?_, hc, h12, hl⟩
  unfold wordOk at hw
  rw [Bool.and_eq_true, decide_eq_true_eq] at hw
  exact hw.1.2.2
end Go.Proofs.YtfkojahoaljiaaaDoor

namespace Go.Proofs.YtfkojahoaljiaaaDoor
open Go.RowKit Go.Maps Go.Shelf
attribute [local go_sem] Oper.semAt_some

theorem nxtW_stop {l : List R} {k : Nat} {s x : ByteArray} {p : List ByteArray} (h : p ++ [x] <+: listTo l k (lowS s) s.size ⟨#[]⟩ (0, 0)) (hp : ∀ y ∈ p, y = s) (hx : x ≠ s) : hdS (nxtW l k s) = x ∧ nxtW l k s ≠ [] := by
  obtain ⟨r, hr⟩ := h
  have hm : x ∈ listTo l k (lowS s) s.size ⟨#[]⟩ (0, 0) := by rw [← hr]; simp
  have h1 : lessS s x = true := by rw [list_ne hm, decide_eq_false hx]; rfl
  have h2 : p.filter (lessS s) = [] := List.filter_eq_nil_iff.2 (fun y hy => by rw [hp y hy, lessS_irrefl]; simp)
  have h3 : nxtW l k s = x :: r.filter (lessS s) := by
    unfold nxtW
    rw [← hr, List.filter_append, List.filter_append, h2, List.nil_append]
    simp [h1]
  rw [h3]; exact ⟨rfl, by simp⟩
theorem nxtW_done {l : List R} {k : Nat} {s : ByteArray} (h : ∀ y ∈ listTo l k (lowS s) s.size ⟨#[]⟩ (0, 0), y = s) : nxtW l k s = [] :=
  List.filter_eq_nil_iff.2 (fun y hy => by rw [h y hy, lessS_irrefl]; simp)
set_option maxRecDepth 100000 in
set_option maxHeartbeats 2000000 in
theorem implNextReduced (k : Int) (A : Option Addr) (n c B : Nat) (l : List R) (s : ByteArray) (w : World) (h : Own B w (.slice A n c) 2 n (rulesC l)) (hsm : smallR l) (hs : s.size ≤ 1048576) (hlet : Let w) :
    Calls Tryd.prog 11 #[.agg #[.int .i64 k, .slice A n c], .string s] w fun e w' => e = .returned (.tuple #[.string (hdS (nextC k l s)), .bool (!(nextC k l s).isEmpty)]) ∧ Below w.heap.size w w' := by
  have HO := Lib.hid h
  have HL := Lib.hid hlet
  clear h hlet
  refine (callsIn_wide (n := 6)).1 ?_
  refine callsIn_of_wp_marks Tryd.func11 rfl trivial ?_ rfl
  simp only [Tryd.ntmps11, List.size_toArray, List.length_cons, List.length_nil, Nat.reduceAdd, Nat.reduceSub, Array.replicate_succ, Array.replicate_zero, List.push_toArray, List.append_toArray, List.nil_append, List.cons_append]
  gi_wp2_with fail
  have b0 : Below w.heap.size w ((((w.alloc (.cells #[.int .i64 k, .slice A n c] 25)).alloc (.cells #[.string s] 9)).alloc (.cells #[.string ⟨#[]⟩] 9)).alloc (.cells #[.bool false] 4)) := bel4 w _ _ _ _
  have R0 : Blk ((((w.alloc (.cells #[.int .i64 k, .slice A n c] 25)).alloc (.cells #[.string s] 9)).alloc (.cells #[.string ⟨#[]⟩] 9)).alloc (.cells #[.bool false] 4)) w.heap.size 25 #[.int .i64 k, .slice A n c] := (((Blk.new1 _ _ _).alloc _).alloc _).alloc _
  have R1 : Blk ((((w.alloc (.cells #[.int .i64 k, .slice A n c] 25)).alloc (.cells #[.string s] 9)).alloc (.cells #[.string ⟨#[]⟩] 9)).alloc (.cells #[.bool false] 4)) (w.heap.size + 1) 9 #[.string s] := ((Blk.new2 _ _ _ _).alloc _).alloc _
  have R2 : Blk ((((w.alloc (.cells #[.int .i64 k, .slice A n c] 25)).alloc (.cells #[.string s] 9)).alloc (.cells #[.string ⟨#[]⟩] 9)).alloc (.cells #[.bool false] 4)) (w.heap.size + 1 + 1) 9 #[.string ⟨#[]⟩] := (Blk.new3 _ _ _ _ _).alloc _
  have R3 : Blk ((((w.alloc (.cells #[.int .i64 k, .slice A n c] 25)).alloc (.cells #[.string s] 9)).alloc (.cells #[.string ⟨#[]⟩] 9)).alloc (.cells #[.bool false] 4)) (w.heap.size + 1 + 1 + 1) 4 #[.bool false] := Blk.new4 _ _ _ _ _ _
  generalize (((w.alloc (.cells #[.int .i64 k, .slice A n c] 25)).alloc (.cells #[.string s] 9)).alloc (.cells #[.string ⟨#[]⟩] 9)).alloc (.cells #[.bool false] 4) = w0 at *
  refine ⟨trivial, (callsIn_wide.2 (canReduce_any k A n c B l s w0 (HO.out.below b0) hsm hs (HL.out.keep b0 (Nat.le_refl _)))).mono ?_⟩
  rintro e w1 ⟨rfl, hb1⟩
  have b1 := b0.trans (hb1.mono b0.size)
  replace R0 := R0.below hb1 R0.lt
  replace R1 := R1.below hb1 R1.lt
  replace R2 := R2.below hb1 R2.lt
  replace R3 := R3.below hb1 R3.lt
  have h1s : w.heap.size + 4 ≤ w1.heap.size := by have := R3.lt; omega
  clear hb1 b0
  obtain ⟨r0, r1, -, -, rl⟩ := R0.two
  have s0 := R1.cell 0
  have y0 := R2.cell 0
  have yf := R2.frozen 0
  have z0 := R3.cell 0
  have zf := R3.frozen 0
  cases h1 : canRed k l s
  · have HF := Lib.hid (nextC_no h1)
    clear h1
    gi_wp2_with fail
    have q2 := (((R2.set_ 0 (.string ⟨#[]⟩)).far (p := ⟨w.heap.size + 1 + 1 + 1, 0, none⟩) (by show w.heap.size + 1 + 1 ≠ _; simp) (.bool false))).cell 0
    have q3 := ((R3.far (p := ⟨w.heap.size + 1 + 1, 0, none⟩) (by simp) (.string ⟨#[]⟩)).set_ 0 (.bool false)).cell 0
    refine ⟨.tuple #[.string ⟨#[]⟩, .bool false], ?_, ret_found (.inr ⟨rfl, rfl, HF.out⟩), (b1.setCell (p := ⟨w.heap.size + 1 + 1, 0, none⟩) (by simp; omega) _).setCell (p := ⟨w.heap.size + 1 + 1 + 1, 0, none⟩) (by simp; omega) _⟩
    simp [results, Tryd.f11, go_sem, q2, q3]
  · obtain ⟨k, rfl, hk4, hs16, hc, h12, hl⟩ := canRed_parts h1
    have Hl := Lib.hid (fun r (hr : r ∈ l) => (hl r hr).1)
    have HNS := Lib.hid (fun h2 => nextC_same (l := l) (s := s) h1 h2)
    have HNM := Lib.hid (fun h2 h3 => nextC_more (l := l) (s := s) h1 h2 h3)
    have HNE := Lib.hid (fun h2 h3 => nextC_end (l := l) (s := s) h1 h2 h3)
    clear h1 hl hc
    gi_wp2_with fail
    refine ⟨trivial, (callsIn_wide.2 (languageOf_any k A n c B l w1 (HO.out.below b1) Hl.out h12 hk4 (HL.out.keep b1 (Nat.le_refl _)))).mono ?_⟩
    rintro e w2 ⟨gL, mA, Q, rfl, hLS, hQ, hb2⟩
    have b2 := b1.trans (hb2.mono b1.size)
    have HLS := Lib.hid hLS
    have HQ := Lib.hid hQ
    replace R1 := R1.below hb2 R1.lt
    replace R2 := R2.below hb2 R2.lt
    replace R3 := R3.below hb2 R3.lt
    have h2s := hb2.size
    clear hb2 hLS hQ r0 r1 s0 y0 yf z0 zf R0
    have s0 := R1.cell 0
    gi_wp2_with fail
    refine ⟨trivial, (callsIn_wide.2 (words_any k l w1.heap.size gL mA 1000 s.size s Q w2 Hl.out h12 hk4 HQ.out (HL.out.keep b2 (Nat.le_refl _)) HLS.out (by omega))).mono ?_⟩
    rintro e w3 ⟨bx, rfl, hWA, hb3⟩
    have b3 := b2.trans (hb3.mono b2.size)
    have HWA := Lib.hid hWA
    have HL3 := Lib.hid (HLS.out.below hb3)
    replace R1 := R1.below hb3 R1.lt
    replace R2 := R2.below hb3 R2.lt
    replace R3 := R3.below hb3 R3.lt
    have h3s := hb3.size
    clear hb3 hWA s0 HLS
    gi_wp2_with fail
    have h5s : w.heap.size + 4 ≤ w3.heap.size := by omega
    refine wpIn_rangeFunc_ownH rfl (by omega) (gf := 43) (lb := #[.pointer (some ⟨bx, 0, none⟩)]) rfl trivial (enters_of Tryd.func43 (by kernel_rfl) rfl)
      (words_stops 5 (by omega) l k bx s.size s (· < w3.heap.size) w3 hk4 (by omega) Hl.out h12 HWA.out (fun _ h => h)) keepE_t (keepE_b (fun _ h => h)) (Below.refl _ _) (fun _ => rfl)
      (fun pre W => (∀ y ∈ pre, y = s) ∧ Below w3.heap.size w3 W)
      (fun c pre W => (c = .ret ∧ (∃ p x, pre = p ++ [x] ∧ (∀ y ∈ p, y = s) ∧ x ≠ s ∧ Blk W (w.heap.size + 1 + 1) 9 #[.string x]) ∧ Blk W (w.heap.size + 1 + 1 + 1) 4 #[.bool true]) ∧ Below w.heap.size w W)
      (OwnFrom.and (fun _ _ _ _ h hg hr => h) (ownFrom_below (Nat.le_refl _) (Nat.le_refl _)))
      (fun c => OwnFrom.and (fun _ _ _ _ h hg hr => ⟨h.1, by obtain ⟨p, x, hx, hp, hn, hb⟩ := h.2.1; exact ⟨p, x, hx, hp, hn, blk_kept hb hg (fun r e => (hr r e).2)⟩, blk_kept h.2.2 hg (fun r e => (hr r e).2)⟩) (ownFrom_below (Nat.le_refl _) (by omega)))
      ⟨fun y hy => by simp at hy, Below.refl _ _⟩
      (fun x a' _ => a' = { tmps := #[.agg #[.int .i64 k, .slice A n c], .string s, .pointer (some ⟨w.heap.size, 0, none⟩), .pointer (some ⟨w.heap.size + 1, 0, none⟩), .pointer (some ⟨w.heap.size + 1 + 1, 0, none⟩), .pointer (some ⟨w.heap.size + 1 + 1 + 1, 0, none⟩), .pointer (some ⟨gL, 0, none⟩), .string x, undef, .agg #[.int .i64 k, .slice A n c], .string s, .bool true, .bool false, .agg #[.int .i64 k, .slice A n c], .pointer (some ⟨gL, 0, none⟩), .pointer (some ⟨gL, 0, none⟩), .string s, .int .i64 s.size, .string s, .func (.func 43) #[] #[.pointer (some ⟨bx, 0, none⟩)], .string x, undef, undef, undef, undef, undef, undef, undef, undef, undef, undef, undef, undef, undef, undef], defers := [] })
      (fun x a' _ _ _ _ h _ _ => h)
      ?assign ?body ?done ?stop
    case assign =>
      rintro lp pre x W K hI hK
      gi_wp2_with fail
      exact hK _ _ (KeepsFrom.refl _ _) (KeepE.refl _ _) hI rfl
    case body =>
      rintro lp pre x a' W hl hr ⟨hp, hb⟩ rfl hlt
      have s0 := (R1.below hb R1.lt).cell 0
      have R2 := R2.below hb R2.lt
      have R3 := R3.below hb R3.lt
      have y0 := R2.cell 0
      have yf := R2.frozen 0
      have z0 := R3.cell 0
      have zf := R3.frozen 0
      have b4 := b3.trans (hb.mono b3.size)
      by_cases hx : x = s
      · subst hx
        gi_wp2_with fail
        exact ⟨KeepsFrom.refl _ _, KeepE.refl _ _, fun y hy => by rcases List.mem_append.1 hy with h | h; exact hp y h; exact List.mem_singleton.1 h, hb⟩
      · have hxe : (x.toList == s.toList) = false := by
          rw [beq_eq_false_iff_ne]; intro h
          rw [toList_data, toList_data] at h
          exact hx (ByteArray.ext (Array.toList_inj.1 h))
        gi_wp2_with fail
        refine ⟨((KeepsOthers.setCell _ _ _).trans (KeepsOthers.setCell _ _ _)).from _, ⟨rfl, ⟨pre, x, rfl, hp, hx, ?_⟩, ?_⟩, ?_⟩
        · exact (R2.set_ 0 (.string x)).far (by simp) _
        · exact (R3.far (by simp) _).set_ 0 (.bool true)
        · exact (b4.setCell (by simp; omega) _).setCell (by simp; omega) _
    case stop =>
      rintro D c pre W hD hpre ⟨⟨rfl, ⟨p, x, rfl, hp, hx, h2⟩, h3⟩, h4⟩ hK
      have HF := Lib.hid (nxtW_stop hpre hp hx)
      clear hpre
      gi_wp2_with fail
      refine ⟨by simp, .inl ⟨_, _, rfl, run_takeDeferred hK, ?_⟩⟩
      have q2 := (blk_kept h2 (grownBy_putObj' _ D (.deferred none)) (fun r e => by cases e; exact ⟨_, hK, rfl⟩)).cell 0
      have q3 := (blk_kept h3 (grownBy_putObj' _ D (.deferred none)) (fun r e => by cases e; exact ⟨_, hK, rfl⟩)).cell 0
      have HF2 := HNS.out HF.out.2
      refine ⟨.tuple #[.string x, .bool true], ?_, ret_found (.inl ⟨rfl, HF2.2, by rw [HF2.1, HF.out.1]⟩), h4.trans (belowK_b (w := w) (Nat.le_refl _) _ D _ _ (by omega) hK rfl rfl)⟩
      simp [results, Tryd.f11, go_sem, q2, q3]
    case done =>
      rintro D ys W hD rfl ⟨hp, hb⟩ hK
      have HN := Lib.hid (nxtW_done hp)
      have s0 := (R1.below hb R1.lt).cell 0
      have R2 := R2.below hb R2.lt
      have R3 := R3.below hb R3.lt
      have y0 := R2.cell 0
      have yf := R2.frozen 0
      have z0 := R3.cell 0
      have zf := R3.frozen 0
      have b4 := b3.trans (hb.mono b3.size)
      have hDW : D < W.heap.size := (Array.getElem?_eq_some_iff.1 hK).1
      clear hp
      by_cases h16 : s.size < 16
      · have h16' : (s.size : Int) ≠ 16 := by omega
        have HM := Lib.hid (HNM.out HN.out h16)
        have hc1 : (s.size : Int) + 1 = ((s.size + 1 : Nat) : Int) := by omega
        have HWo := Lib.hid (words_any k l w1.heap.size gL mA 1000 (s.size + 1) ⟨#[]⟩ Q W Hl.out h12 hk4 HQ.out (HL.out.keep b4 (Nat.le_refl _)) (HL3.out.below hb) (by omega))
        rw [← hc1] at HWo
        clear hc1 y0 yf z0 zf
        gi_wp2_with fail
        refine ⟨trivial, (callsIn_wide.2 HWo.out).mono ?_⟩
        rintro e w4 ⟨bx2, rfl, hWB, hb4⟩
        have b5 := b4.trans (hb4.mono b4.size)
        have HWB := Lib.hid hWB
        replace R2 := R2.below hb4 R2.lt
        replace R3 := R3.below hb4 R3.lt
        have hK4 : w4.heap[D]? = some (.deferred (some [])) := (hb4.block D hDW).trans hK
        have h4s := hb4.size
        have hDW4 : D < w4.heap.size := by omega
        clear hb4 hWB s0 HWo
        gi_wp2_with fail
        have h6s : w.heap.size + 4 ≤ w4.heap.size := by have := b3.size; omega
        refine wpIn_rangeFunc_ownH rfl (by omega) (gf := 43) (lb := #[.pointer (some ⟨bx2, 0, none⟩)]) rfl trivial (enters_of Tryd.func43 (by kernel_rfl) rfl)
          (words_stops 5 (by omega) l k bx2 (s.size + 1) ⟨#[]⟩ (· < w4.heap.size) w4 hk4 (by omega) Hl.out h12 HWB.out (fun _ h => h)) keepE_t (keepE_b (fun _ h => h)) (Below.refl _ _) (fun _ => rfl)
          (fun pre W => pre = [] ∧ Below w4.heap.size w4 W)
          (fun c pre W => (c = .ret ∧ (∃ x, pre = [x] ∧ Blk W (w.heap.size + 1 + 1) 9 #[.string x]) ∧ Blk W (w.heap.size + 1 + 1 + 1) 4 #[.bool true] ∧ W.heap[D]? = some (.deferred (some []))) ∧ Below w.heap.size w W)
          (OwnFrom.and (fun _ _ _ _ h hg hr => h) (ownFrom_below (Nat.le_refl _) (Nat.le_refl _)))
          (fun c => OwnFrom.and (fun _ _ _ _ h hg hr => ⟨h.1, by obtain ⟨x, hx, hb⟩ := h.2.1; exact ⟨x, hx, blk_kept hb hg (fun r e => (hr r e).2)⟩, blk_kept h.2.2.1 hg (fun r e => (hr r e).2), (hg.block D (Array.getElem?_eq_some_iff.1 h.2.2.2).1 (fun e => by have := (hr D e.symm).1; omega)).trans h.2.2.2⟩) (ownFrom_below (Nat.le_refl _) (by omega)))
          ⟨rfl, Below.refl _ _⟩
          (fun x a' _ => a' = { tmps := #[.agg #[.int .i64 k, .slice A n c], .string s, .pointer (some ⟨w.heap.size, 0, none⟩), .pointer (some ⟨w.heap.size + 1, 0, none⟩), .pointer (some ⟨w.heap.size + 1 + 1, 0, none⟩), .pointer (some ⟨w.heap.size + 1 + 1 + 1, 0, none⟩), .pointer (some ⟨gL, 0, none⟩), undef, .string x, .agg #[.int .i64 k, .slice A n c], .string s, .bool true, .bool false, .agg #[.int .i64 k, .slice A n c], .pointer (some ⟨gL, 0, none⟩), .pointer (some ⟨gL, 0, none⟩), .string s, .int .i64 s.size, .string s, .func (.func 43) #[] #[.pointer (some ⟨bx, 0, none⟩)], undef, undef, undef, undef, undef, .string s, .int .i64 s.size, .bool false, .pointer (some ⟨gL, 0, none⟩), .string s, .int .i64 s.size, .int .i64 ((s.size : Int) + 1), .func (.func 43) #[] #[.pointer (some ⟨bx2, 0, none⟩)], .string x, undef], defers := [] })
          (fun x a' _ _ _ _ h _ _ => h)
          ?assign2 ?body2 ?done2 ?stop2
        case assign2 =>
          rintro lp pre x W K hI hK
          gi_wp2_with fail
          exact hK _ _ (KeepsFrom.refl _ _) (KeepE.refl _ _) hI rfl
        case body2 =>
          rintro lp pre x a' W hl hr ⟨rfl, hb⟩ rfl hlt
          have R2 := R2.below hb R2.lt
          have R3 := R3.below hb R3.lt
          have y0 := R2.cell 0
          have yf := R2.frozen 0
          have z0 := R3.cell 0
          have zf := R3.frozen 0
          have b6 := b5.trans (hb.mono b5.size)
          have hK6 := (hb.block D hDW4).trans hK4
          gi_wp2_with fail
          refine ⟨((KeepsOthers.setCell _ _ _).trans (KeepsOthers.setCell _ _ _)).from _, ⟨rfl, ⟨x, rfl, ?_⟩, ?_, ?_⟩, ?_⟩
          · exact (R2.set_ 0 (.string x)).far (by simp) _
          · exact (R3.far (by simp) _).set_ 0 (.bool true)
          · exact ((KeepsOthers.setCell _ _ _).trans (KeepsOthers.setCell _ _ _)).same D _ hK6 rfl
          · exact (b6.setCell (by simp; omega) _).setCell (by simp; omega) _
        case stop2 =>
          rintro D2 c pre W hD2 hpre ⟨⟨rfl, ⟨x, rfl, h2⟩, h3, hK1⟩, h4⟩ hK2
          have HF : Hid (hdS (nextC k l s) = x ∧ nextC k l s ≠ []) := by
            show _ ∧ _
            rw [HM.out, ← listTo_empty]
            obtain ⟨r, hr⟩ := hpre
            rw [← hr]; exact ⟨rfl, by simp⟩
          clear hpre
          gi_wp2_with fail
          have hne : D ≠ D2 := by omega
          have hK1' : (W.putObj D2 (.deferred none)).heap[D]? = some (.deferred (some [])) := (World.putObj_heap_other hne).trans hK1
          refine ⟨by simp, .inl ⟨_, _, rfl, run_takeDeferred hK2, ⟨by simp, .inl ⟨_, _, rfl, run_takeDeferred hK1', ?_⟩⟩⟩⟩
          have q2' := blk_kept h2 (grownBy_putObj' _ D2 (.deferred none)) (fun r e => by cases e; exact ⟨_, hK2, rfl⟩)
          have q3' := blk_kept h3 (grownBy_putObj' _ D2 (.deferred none)) (fun r e => by cases e; exact ⟨_, hK2, rfl⟩)
          have q2 := (blk_kept q2' (grownBy_putObj' _ D (.deferred none)) (fun r e => by cases e; exact ⟨_, hK1', rfl⟩)).cell 0
          have q3 := (blk_kept q3' (grownBy_putObj' _ D (.deferred none)) (fun r e => by cases e; exact ⟨_, hK1', rfl⟩)).cell 0
          refine ⟨.tuple #[.string x, .bool true], ?_, ret_found (.inl ⟨rfl, HF.out.2, HF.out.1.symm⟩), (h4.trans (belowK_b (w := w) (Nat.le_refl _) _ D2 _ _ (by omega) hK2 rfl rfl)).trans (belowK_b (w := w) (Nat.le_refl _) _ D _ _ (by omega) hK1' rfl rfl)⟩
          simp [results, Tryd.f11, go_sem, q2, q3]
        case done2 =>
          rintro D2 ys W hD2 hys ⟨rfl, hb⟩ hK2
          have HF : Hid (nextC k l s = []) := by
            show _ = _
            rw [HM.out, ← listTo_empty]; exact hys.symm
          clear hys
          have R2 := R2.below hb R2.lt
          have R3 := R3.below hb R3.lt
          have y0 := R2.cell 0
          have yf := R2.frozen 0
          have z0 := R3.cell 0
          have zf := R3.frozen 0
          have b6 := b5.trans (hb.mono b5.size)
          have hK1 := (hb.block D hDW4).trans hK4
          gi_wp2_with fail
          have hne : D ≠ D2 := by omega
          have q2' := ((R2.set_ 0 (.string ⟨#[]⟩)).far (p := ⟨w.heap.size + 1 + 1 + 1, 0, none⟩) (by show w.heap.size + 1 + 1 ≠ _; simp) (.bool false))
          have q3' := ((R3.far (p := ⟨w.heap.size + 1 + 1, 0, none⟩) (by simp) (.string ⟨#[]⟩)).set_ 0 (.bool false))
          have hK2' := ((KeepsOthers.setCell W ⟨w.heap.size + 1 + 1, 0, none⟩ (.string ⟨#[]⟩)).trans (KeepsOthers.setCell _ ⟨w.heap.size + 1 + 1 + 1, 0, none⟩ (.bool false))).same D2 _ hK2 rfl
          have hK1w := ((KeepsOthers.setCell W ⟨w.heap.size + 1 + 1, 0, none⟩ (.string ⟨#[]⟩)).trans (KeepsOthers.setCell _ ⟨w.heap.size + 1 + 1 + 1, 0, none⟩ (.bool false))).same D _ hK1 rfl
          have hK1' : (((W.setCell ⟨w.heap.size + 1 + 1, 0, none⟩ (.string ⟨#[]⟩)).setCell ⟨w.heap.size + 1 + 1 + 1, 0, none⟩ (.bool false)).putObj D2 (.deferred none)).heap[D]? = some (.deferred (some [])) := (World.putObj_heap_other hne).trans hK1w
          refine ⟨by simp, .inl ⟨_, _, rfl, run_takeDeferred hK2', ⟨by simp, .inl ⟨_, _, rfl, run_takeDeferred hK1', ?_⟩⟩⟩⟩
          have q2'' := blk_kept q2' (grownBy_putObj' _ D2 (.deferred none)) (fun r e => by cases e; exact ⟨_, hK2', rfl⟩)
          have q3'' := blk_kept q3' (grownBy_putObj' _ D2 (.deferred none)) (fun r e => by cases e; exact ⟨_, hK2', rfl⟩)
          have q2 := (blk_kept q2'' (grownBy_putObj' _ D (.deferred none)) (fun r e => by cases e; exact ⟨_, hK1', rfl⟩)).cell 0
          have q3 := (blk_kept q3'' (grownBy_putObj' _ D (.deferred none)) (fun r e => by cases e; exact ⟨_, hK1', rfl⟩)).cell 0
          refine ⟨.tuple #[.string ⟨#[]⟩, .bool false], ?_, ret_found (.inr ⟨rfl, rfl, HF.out⟩), (((b6.setCell (p := ⟨w.heap.size + 1 + 1, 0, none⟩) (by simp; omega) _).setCell (p := ⟨w.heap.size + 1 + 1 + 1, 0, none⟩) (by simp; omega) _).trans (belowK_b (w := w) (Nat.le_refl _) _ D2 _ _ (by omega) hK2' rfl rfl)).trans (belowK_b (w := w) (Nat.le_refl _) _ D _ _ (by omega) hK1' rfl rfl)⟩
          simp [results, Tryd.f11, go_sem, q2, q3]
      · have h16' : (s.size : Int) = 16 := by omega
        have HE := Lib.hid (HNE.out HN.out h16)
        gi_wp2_with fail
        have q2' := ((R2.set_ 0 (.string ⟨#[]⟩)).far (p := ⟨w.heap.size + 1 + 1 + 1, 0, none⟩) (by show w.heap.size + 1 + 1 ≠ _; simp) (.bool false))
        have q3' := ((R3.far (p := ⟨w.heap.size + 1 + 1, 0, none⟩) (by simp) (.string ⟨#[]⟩)).set_ 0 (.bool false))
        have hK' := ((KeepsOthers.setCell W ⟨w.heap.size + 1 + 1, 0, none⟩ (.string ⟨#[]⟩)).trans (KeepsOthers.setCell _ ⟨w.heap.size + 1 + 1 + 1, 0, none⟩ (.bool false))).same D _ hK rfl
        refine ⟨by simp, .inl ⟨_, _, rfl, run_takeDeferred hK', ?_⟩⟩
        have q2 := (blk_kept q2' (grownBy_putObj' _ D (.deferred none)) (fun r e => by cases e; exact ⟨_, hK', rfl⟩)).cell 0
        have q3 := (blk_kept q3' (grownBy_putObj' _ D (.deferred none)) (fun r e => by cases e; exact ⟨_, hK', rfl⟩)).cell 0
        refine ⟨.tuple #[.string ⟨#[]⟩, .bool false], ?_, ret_found (.inr ⟨rfl, rfl, HE.out⟩), ((b4.setCell (p := ⟨w.heap.size + 1 + 1, 0, none⟩) (by simp; omega) _).setCell (p := ⟨w.heap.size + 1 + 1 + 1, 0, none⟩) (by simp; omega) _).trans (belowK_b (w := w) (Nat.le_refl _) _ D _ _ (by omega) hK' rfl rfl)⟩
        simp [results, Tryd.f11, go_sem, q2, q3]
end Go.Proofs.YtfkojahoaljiaaaDoor

namespace Go.Proofs.YtfkojahoaljiaaaDoor
open Go.RowKit Go.WideShapes Go.ChangeShapes
theorem trodVars_len {H : Type} {enc : TypeId × Value → H} {P : Program} {w : World} {sp : Nat → Bool} : ∀ {ns : List String} {gs : List (DataW H)} {ps : List MemPlace}, DataW.TrodVars enc P w sp ns gs ps → gs.length = ns.length
  | [], [], _, _ => rfl
  | [], _ :: _, _, h => h.elim
  | _ :: _, [], _, h => h.elim
  | _ :: _, _ :: _, _, h => by
    obtain ⟨g, t, cs, fuel, p, q, h1, h2, h3, h4, hs, e⟩ := h
    simp [trodVars_len hs]
theorem vars_len1 {α : Type} {gs : List α} (h : gs.length = 1) : ∃ a, gs = [a] := List.length_eq_one_iff.1 h
theorem vars_len2 {α : Type} {gs : List α} (h : gs.length = 2) : ∃ a b, gs = [a, b] := by
  match gs, h with
  | [a, b], _ => exact ⟨a, b, rfl⟩
theorem vars_len3 {α : Type} {gs : List α} (h : gs.length = 3) : ∃ a b c, gs = [a, b, c] := by
  match gs, h with
  | [a, b, c], _ => exact ⟨a, b, c, rfl⟩
theorem vars_len4 {α : Type} {gs : List α} (h : gs.length = 4) : ∃ a b c d, gs = [a, b, c, d] := by
  match gs, h with
  | [a, b, c, d], _ => exact ⟨a, b, c, d, rfl⟩
theorem vars_len5 {α : Type} {gs : List α} (h : gs.length = 5) : ∃ a b c d e, gs = [a, b, c, d, e] := by
  match gs, h with
  | [a, b, c, d, e], _ => exact ⟨a, b, c, d, e, rfl⟩
theorem vars_len6 {α : Type} {gs : List α} (h : gs.length = 6) : ∃ a b c d e f, gs = [a, b, c, d, e, f] := by
  match gs, h with
  | [a, b, c, d, e, f], _ => exact ⟨a, b, c, d, e, f, rfl⟩
/-- A LAW's END where her row takes package variables: it returned true, and below the old heap's end nothing has turned. -/
theorem law_postV {H : Type} {enc : TypeId × Value → H} {P : Program} {f : Func} {s : ChangeSpec} {W W' : World} {args : Array Value} {ds gs : List (DataW H)} {before : List MemPlace} {tb : TypeId}
    (hW : DataW.Whole enc P f.params.toList s.vars false W args.toList ds gs before) (hfn : s.fn H (ds ++ gs) = { results := [.lit (.bool true)], args := ds, vars := gs })
    (hres : f.resultTypes = #[tb]) (hbool : P.underlying tb = some .bool) (hl : laidOutB P = true) (hread : f.params.toList.all (fun t => P.readableRec t && decide (t < P.types.size)) = true) (hvr : varsRowed P s.vars = true)
    (hb : Below W.heap.size W W') : s.post enc P f false true false false W args (.bool true) W' := by
  have hlt : ∀ p ∈ before, p.block < W.heap.size := fun p hp => hW.lt p hp
  have hW' := hW
  obtain ⟨p, q, hA0, hV, rfl, hfz, hnd⟩ := hW
  refine ⟨ds, gs, p ++ q, [], p, q, hW', ?_, ?_, ?_, ?_, fun h => by cases h⟩
  · rw [hfn, hres]
    exact trodAll_cons_mk (shut_bool hbool _) trodAll_mk0
  · rw [hfn]
    exact trodAll_below hl hb _ _ _ _ hread hA0 (fun x hx => hlt x (List.mem_append_left _ hx))
  · rw [hfn]
    exact Below.trodVars hl hb hvr hV
  · exact World.keptBut_mono (fun x hx => ⟨hx, by rcases List.mem_append.1 hx with h | h; exact Or.inr (Or.inl h); exact Or.inr (Or.inr h)⟩) (hb.frame (· ∈ p ++ q))
noncomputable def laidWorld (os : Os) : World :=
  let w0 := World.holding Tryd.prog os ⟨#[], #[], []⟩
  let put (h : Array Obj) (g : Nat) (cs : Array Value) : Array Obj := h.modify g fun
    | .cells _ t frozen => .cells cs t frozen
    | o => o
  let h0 := put w0.heap 0 #[.int .u8 97, .int .u8 98, .int .u8 99, .int .u8 100]
  { w0 with heap := h0 }
end Go.Proofs.YtfkojahoaljiaaaDoor

namespace Go.Proofs.YtfkojahoaljiaaaDoor.fnReduced
open Go.Joins Go.ChangeShapes Go.WideShapes Go.ChangeAt Go.RowKit

theorem kids_pow (l : List R) (k : Nat) : ∀ n, (lvl l k n).length ≤ k ^ n
  | 0 => Nat.le_refl _
  | n + 1 => by
    have h1 := kids_len l k (lvl l k n)
    have h2 := Nat.mul_le_mul_right k (kids_pow l k n)
    rw [Nat.pow_succ]
    exact Nat.le_trans h1 h2
set_option maxRecDepth 100000 in
set_option maxHeartbeats 2500000 in
theorem walk (A : Option Addr) (n c : Nat) (w : World) (h : InB w A n c) (hL : Let w) :
    Calls Tryd.prog 3 #[.slice A n c] w fun e w' => e = .returned (.bool true) ∧ Below w.heap.size w w' := by
  have HL := Lib.hid (fun (w' : World) (hb : Below w.heap.size w w') => hL.keep hb (Nat.le_refl _))
  have hc : n ≤ maxLen := by have := h.1; have := h.2.1; omega
  unfold maxLen at hc
  clear hL
  by_cases hbig : 1048576 < n
  · go_enter Tryd.func3, Tryd.ntmps3
    go_wp2_with fail
    go_ret
    exact ⟨rfl, Below.refl _ _⟩
  have hn : n ≤ 1048576 := Nat.le_of_not_lt hbig
  have H := Lib.hid h
  clear h
  go_enter Tryd.func3, Tryd.ntmps3
  go_wp2_with fail
  refine (MakeSystem_any A n c 0 _ H.out hn (by omega)).mono ?_
  rintro e w1 ⟨k, l, v, rfl, hO, hsys, hb1⟩
  obtain ⟨A1, c1, rfl⟩ := hO.form
  obtain ⟨k, rfl, hk1, hk4, h12, hl⟩ := systemOk_parts hsys
  have hm := hO.bound
  unfold maxLen at hm
  have HB2 := Lib.hid (Blk.new1 w1 #[.int .i64 (k : Int), .slice A1 l.length c1] 25)
  have b2 := hb1.alloc hb1.size (.cells #[.int .i64 (k : Int), .slice A1 l.length c1] 25)
  have HO2 := Lib.hid (hO.below (bel1 w1 (.cells #[.int .i64 (k : Int), .slice A1 l.length c1] 25)))
  have Hsm : Hid (smallR l) := fun r hr => by
    have h1 := hsys
    simp only [systemOk, Bool.and_eq_true] at h1
    have := rulesOk_mem h1.1 hr
    omega
  have Hl := Lib.hid hl
  have HC := Lib.hid (fun (x : Nat) (hx : x ≤ 16) => (show canC k l x = true by unfold canC; rw [hsys, Bool.true_and]; exact decide_eq_true (by omega)))
  have Hsys := Lib.hid hsys
  clear hO hb1 hl hsys
  go_wp2_with fail
  generalize w1.alloc (.cells #[.int .i64 (k : Int), .slice A1 l.length c1] 25) = w2 at *
  refine (MakeNum_any A n c 40 _ (H.out.keep b2) hn (by omega)).mono ?_
  rintro e w3 ⟨q, rfl, hq0, hq1, hb3⟩
  obtain ⟨x, hx⟩ : ∃ x : Nat, q % 5 = x := ⟨(q % 5).toNat, by omega⟩
  have hx4 : x ≤ 4 := by omega
  have b3 := b2.trans (hb3.mono b2.size)
  have HB3 := Lib.hid (HB2.out.below hb3 HB2.out.lt)
  have HO3 := Lib.hid (HO2.out.below hb3)
  clear hb3 HB2 HO2 b2
  obtain ⟨s0, s1, -, -, sl⟩ := HB3.out.two
  go_wp2_with fail
  rw [hx]
  have hcx := HC.out x (by omega)
  have hfew : (lvl l k x).length ≤ 256 := Nat.le_trans (lvl_few l k hk4 x) (Nat.le_trans (Nat.pow_le_pow_right (by omega) hx4) (by decide))
  have Hok := Lib.hid (show redOk (k : Int) l (x : Int) = true by rw [redOk_yes hcx, ← lvl_len]; exact decide_eq_true hfew)
  have HLL := Lib.hid (redL_yes Hok.out)
  have HG := Lib.hid (show growS (k : Int) l (x : Int) = growL l k (x + 1) from growS_yes hcx)
  have HCT := Lib.hid (show countR (k : Int) l (x : Int) = ((lvl l k x).length : Nat) by rw [countR_few hcx hk4 (by omega), lvl_len])
  have HIR := Lib.hid (implReducedWords k A1 l.length c1 _ l x w3 HO3.out Hsm.out (HL.out _ b3))
  rw [Hok.out, HLL.out] at HIR
  refine HIR.out.mono ?_
  rintro e w4 ⟨v4, rfl, o4, hb4⟩
  have b4 := b3.trans (hb4.mono b3.size)
  have HB4 := Lib.hid (HB3.out.below hb4 HB3.out.lt)
  have HO4 := Lib.hid (HO3.out.below hb4)
  obtain ⟨A4, c4, rfl⟩ := o4.form
  have HW4 := Lib.hid o4
  clear hb4 o4 HB3 HO3 HIR s0 s1 sl
  obtain ⟨s0, s1, -, -, sl⟩ := HB4.out.two
  go_wp2_with fail
  have HGR := Lib.hid (implGrowthOf k A1 l.length c1 _ l x w4 HO4.out Hsm.out (HL.out _ b4))
  rw [HG.out, growL_len] at HGR
  refine HGR.out.mono ?_
  rintro e w5 ⟨v5, rfl, o5, hb5⟩
  have b5 := b4.trans (hb5.mono b4.size)
  have HB5 := Lib.hid (HB4.out.below hb5 HB4.out.lt)
  have HO5 := Lib.hid (HO4.out.below hb5)
  have HW5 := Lib.hid (HW4.out.below hb5)
  obtain ⟨A5, c5, rfl⟩ := o5.form
  have HG5 := Lib.hid o5
  clear hb5 o5 HB4 HO4 HW4 HGR s0 s1 sl
  obtain ⟨s0, s1, -, -, sl⟩ := HB5.out.two
  obtain ⟨gg, og, rfl, -, hgg, hgc⟩ := HG5.out.int (by omega)
  obtain ⟨y, hy, x0, -⟩ := hgc x (by omega)
  have hy2 : y = ((lvl l k x).length : Nat) := by
    rw [growL_get l k _ x (by omega)] at hy
    injection hy with hy
    rw [← hy, wr_small (by rw [← lvl_len]; omega), lvl_len]
  subst hy2
  clear hy hgc
  have HNN := Lib.hid (show (lvl l k x).length ≤ k ^ x from kids_pow l k x)
  generalize hN : (lvl l k x).length = N at *
  go_wp2_with fail
  refine (implCountReduced k A1 l.length c1 _ l x w5 HO5.out Hsm.out (HL.out _ b5)).mono ?_
  rw [HCT.out]
  rintro e w6 ⟨rfl, hb6⟩
  have b6 := b5.trans (hb6.mono b5.size)
  have HB6 := Lib.hid (HB5.out.below hb6 HB5.out.lt)
  have HO6 := Lib.hid (HO5.out.below hb6)
  have HW6 := Lib.hid (HW5.out.below hb6)
  have HG6 := Lib.hid (HG5.out.below hb6)
  clear hb6 HB5 HO5 HW5 HG5 s0 s1 sl x0 HCT
  have hform : ∀ hn : 0 < N, ∃ g off, A4 = some ⟨g, off, none⟩ := fun hn => by
    obtain ⟨_, A', c', hv, _, _, hcell⟩ := HW6.out
    obtain ⟨g', off', e, _⟩ := hcell hn
    injection hv with x _ _
    exact ⟨g', off', by rw [x, e]⟩
  go_wp2_with fail
  go_loopw [62] (fun i' wr => ∃ i : Nat, i' = .int .i64 i ∧ i ≤ N ∧ Below w6.heap.size w6 wr) (fun i' _ => N - (intOf i').toNat)
  case atStart => exact ⟨0, rfl, Nat.zero_le _, Below.refl _ _⟩
  case round =>
    obtain ⟨i, rfl, hi, hb⟩ := hrel
    have hbs := hb.size
    by_cases hlt : i < N
    · obtain ⟨g4, o4, rfl⟩ := hform (by omega)
      obtain ⟨v, hv⟩ : ∃ v, (lvl l k x)[i]? = some v := ⟨_, List.getElem?_eq_getElem (by rw [hN]; exact hlt)⟩
      have hmem := List.mem_of_getElem? hv
      have hvs := lvl_size x v hmem
      have Hred := Lib.hid (show reducedS (k : Int) l v = true by
        unfold reducedS canRed wordOk
        rw [Hsys.out, stepsD_none hmem (fun r hr => (Hl.out r hr).2) 0]
        simp [lvl_written hk4 hmem, hvs]
        omega)
      have HO := Lib.hid (HO6.out.below hb)
      have HW := Lib.hid (HW6.out.below hb)
      have HB := Lib.hid (HB6.out.below hb HB6.out.lt)
      have b7 := b6.trans (hb.mono b6.size)
      obtain ⟨q0, q1, -, -, ql⟩ := HB.out.two
      obtain ⟨g9, o9, e9, -, hg4, hcs⟩ := HW.out.str (by omega)
      injection e9 with e9
      injection e9 with e1 e2
      subst e1 e2
      obtain ⟨v', hv', y0, -⟩ := hcs i hlt
      obtain rfl : v = v' := by rw [hv] at hv'; exact Option.some.inj hv'
      clear hv'
      have Hnx := Lib.hid (show ((∃ Y, nextC (k : Int) l v = (lvl l k x).drop (i + 1) ++ Y) ∧ i + 1 < N) ∨ (nextC (k : Int) l v = lvl l k (x + 1) ∧ i + 1 = N) by
        have hcan : canRed (k : Int) l v = true := by
          have := Hred.out
          unfold reducedS at this
          rw [Bool.and_eq_true] at this
          exact this.1
        have hd := nxtW_at hk4 hv
        by_cases he : i + 1 < N
        · refine .inl ⟨?_, he⟩
          unfold nextC
          rw [if_pos hcan, Int.toNat_natCast, hd]
          exact ⟨_, rfl⟩
        · refine .inr ⟨?_, by omega⟩
          have hnil : nxtW l k v = [] := by rw [hd, List.drop_eq_nil_iff]; omega
          rw [nextC_more hcan hnil (by omega), hvs])
      go_wp2_with fail
      refine (implIsReduced k A1 l.length c1 _ l v wr HO.out Hsm.out (by omega) (HL.out _ b7)).mono ?_
      rw [Hred.out]
      rintro e w7 ⟨rfl, hb7⟩
      have b8 := b7.trans (hb7.mono b7.size)
      have hb8 := hb.trans (hb7.mono hbs)
      have HB8 := Lib.hid (HB.out.below hb7 HB.out.lt)
      have HO8 := Lib.hid (HO.out.below hb7)
      have HW8 := Lib.hid (HW.out.below hb7)
      clear hb7 HB HO HW q0 q1 y0 b7 hcs
      obtain ⟨q0, q1, -, -, -⟩ := HB8.out.two
      obtain ⟨g9, o9, e9, -, -, hcs⟩ := HW8.out.str (by omega)
      injection e9 with e9
      injection e9 with e1 e2
      subst e1 e2
      rcases i with _ | j
      · go_wp2_with fail
        refine (implNextReduced k A1 l.length c1 _ l v w7 HO8.out Hsm.out (by omega) (HL.out _ b8)).mono ?_
        rintro e w9 ⟨rfl, hb9⟩
        have hb10 := hb8.trans (hb9.mono hb8.size)
        have HW9 := Lib.hid (HW8.out.below hb9)
        clear hb9 q0 q1 hcs
        rcases Hnx.out with ⟨⟨Y, hX⟩, hlt2⟩ | ⟨hX, hend⟩
        · obtain ⟨g9, o9, e9, -, -, hcs⟩ := HW9.out.str (by omega)
          injection e9 with e9
          injection e9 with e1 e2
          subst e1 e2
          obtain ⟨z, hz, y2, -⟩ := hcs (0 + 1) (by omega)
          have hz2 : (lvl l k x).drop (0 + 1) = z :: (lvl l k x).drop (0 + 1 + 1) := by
            rw [List.drop_eq_getElem_cons (by rw [hN]; exact hlt2)]
            congr 1
            exact (List.getElem?_eq_some_iff.1 hz).2
          rw [hz2, List.cons_append] at hX
          rw [hX]
          generalize (lvl l k x).drop (0 + 1 + 1) ++ Y = Z at *
          rw [show hdS (z :: Z) = z from rfl]
          rw [show (!(z :: Z).isEmpty) = true from rfl]
          clear hcs hz hz2 hX
          go_wp2_with fail
          go_roundw
          case rel => exact ⟨0 + 1, by go_num, by omega, hb10⟩
          case measure => simp [intOf]; omega
        · rw [hX]
          have hsz : ∀ z ∈ lvl l k (x + 1), z.size = x + 1 := fun z hz => lvl_size (x + 1) z hz
          cases hE : lvl l k (x + 1) with
          | nil =>
            rw [show hdS ([] : List ByteArray) = ⟨#[]⟩ from rfl]
            rw [show (!([] : List ByteArray).isEmpty) = false from rfl]
            clear hX hE hsz
            go_wp2_with fail
            go_roundw
            case rel => exact ⟨0 + 1, by go_num, by omega, hb10⟩
            case measure => simp [intOf]; omega
          | cons z Z =>
            have hzs := hsz z (by rw [hE]; exact List.mem_cons_self ..)
            rw [show hdS (z :: Z) = z from rfl]
            rw [show (!(z :: Z).isEmpty) = true from rfl]
            clear hX hE hsz
            go_wp2_with fail
            go_roundw
            case rel => exact ⟨0 + 1, by go_num, by omega, hb10⟩
            case measure => simp [intOf]; omega
      · obtain ⟨u, hu, y1, -⟩ := hcs j (by omega)
        have hle : (!Op.bytesLess u.toList v.toList) = false := by
          have h1 := (List.pairwise_iff_getElem.1 (lvl_sorted l k x hk4)) j (j + 1) (by rw [hN]; omega) (by rw [hN]; omega) (by omega)
          rw [(List.getElem?_eq_some_iff.1 hu).2, (List.getElem?_eq_some_iff.1 hv).2] at h1
          unfold lessB at h1
          rw [toList_data, toList_data, h1]; rfl
        go_wp2_with fail
        refine (implNextReduced k A1 l.length c1 _ l v w7 HO8.out Hsm.out (by omega) (HL.out _ b8)).mono ?_
        rintro e w9 ⟨rfl, hb9⟩
        have hb10 := hb8.trans (hb9.mono hb8.size)
        have HW9 := Lib.hid (HW8.out.below hb9)
        clear hb9 q0 q1 hcs
        rcases Hnx.out with ⟨⟨Y, hX⟩, hlt2⟩ | ⟨hX, hend⟩
        · obtain ⟨g9, o9, e9, -, -, hcs⟩ := HW9.out.str (by omega)
          injection e9 with e9
          injection e9 with e1 e2
          subst e1 e2
          obtain ⟨z, hz, y2, -⟩ := hcs ((j + 1) + 1) (by omega)
          have hz2 : (lvl l k x).drop ((j + 1) + 1) = z :: (lvl l k x).drop ((j + 1) + 1 + 1) := by
            rw [List.drop_eq_getElem_cons (by rw [hN]; exact hlt2)]
            congr 1
            exact (List.getElem?_eq_some_iff.1 hz).2
          rw [hz2, List.cons_append] at hX
          rw [hX]
          generalize (lvl l k x).drop ((j + 1) + 1 + 1) ++ Y = Z at *
          rw [show hdS (z :: Z) = z from rfl]
          rw [show (!(z :: Z).isEmpty) = true from rfl]
          clear hcs hz hz2 hX
          go_wp2_with fail
          go_roundw
          case rel => exact ⟨(j + 1) + 1, by go_num, by omega, hb10⟩
          case measure => simp [intOf]; omega
        · rw [hX]
          have hsz : ∀ z ∈ lvl l k (x + 1), z.size = x + 1 := fun z hz => lvl_size (x + 1) z hz
          cases hE : lvl l k (x + 1) with
          | nil =>
            rw [show hdS ([] : List ByteArray) = ⟨#[]⟩ from rfl]
            rw [show (!([] : List ByteArray).isEmpty) = false from rfl]
            clear hX hE hsz
            go_wp2_with fail
            go_roundw
            case rel => exact ⟨(j + 1) + 1, by go_num, by omega, hb10⟩
            case measure => simp [intOf]; omega
          | cons z Z =>
            have hzs := hsz z (by rw [hE]; exact List.mem_cons_self ..)
            rw [show hdS (z :: Z) = z from rfl]
            rw [show (!(z :: Z).isEmpty) = true from rfl]
            clear hX hE hsz
            go_wp2_with fail
            go_roundw
            case rel => exact ⟨(j + 1) + 1, by go_num, by omega, hb10⟩
            case measure => simp [intOf]; omega
    · obtain rfl : N = i := by omega
      have HB := Lib.hid (HB6.out.below hb HB6.out.lt)
      have HO := Lib.hid (HO6.out.below hb)
      have HG := Lib.hid (HG6.out.below hb)
      have b7 := b6.trans (hb.mono b6.size)
      have H0 := Lib.hid (show countR (k : Int) l (0 : Int) = 1 by
        have h := countR_few (l := l) (x := 0) (HC.out 0 (by omega)) hk4 (by omega)
        rw [show ((0 : Nat) : Int) = 0 from rfl] at h
        rw [h, ← lvl_len]; rfl)
      obtain ⟨q0, q1, -, -, ql⟩ := HB.out.two
      go_wp2_with fail
      refine (implCountReduced k A1 l.length c1 _ l 0 wr HO.out Hsm.out (HL.out _ b7)).mono ?_
      rw [H0.out]
      rintro e w7 ⟨rfl, hb7⟩
      have b8 := b7.trans (hb7.mono b7.size)
      have HB8 := Lib.hid (HB.out.below hb7 HB.out.lt)
      have HG8 := Lib.hid (HG.out.below hb7)
      clear hb7 HB HO HG q0 q1 ql b7
      obtain ⟨q0, q1, -, -, ql⟩ := HB8.out.two
      have hNN := HNN.out
      go_wp2_with fail
      go_loop [14, 15] (fun v i' => ∃ j P : Nat, i' = .int .i64 j ∧ v = .int .i64 P ∧ j ≤ x ∧ P ≤ 256 ∧ Hid (P = k ^ j)) (fun _ i' => x - (intOf i').toNat)
      case atStart => exact ⟨0, 1, rfl, rfl, Nat.zero_le _, by omega, rfl⟩
      case round =>
        obtain ⟨j, P, rfl, rfl, hj, hP, HP⟩ := hrel
        by_cases hjx : j < x
        · have hPk : P * k ≤ 1024 := Nat.mul_le_mul hP hk4
          have HP2 : Hid (P * k = k ^ (j + 1)) := by show _ = _; rw [HP.out, Nat.pow_succ]
          have hP2 : P * k ≤ 256 := by
            rw [HP2.out]
            exact Nat.le_trans (Nat.pow_le_pow_left hk4 _) (Nat.le_trans (Nat.pow_le_pow_right (by omega) (by omega : j + 1 ≤ 4)) (by decide))
          go_wp2_with fail
          go_round
          case rel => exact ⟨j + 1, P * k, by go_num, by go_num, by omega, hP2, HP2⟩
          case measure => simp [intOf]; omega
        · obtain rfl : x = j := by omega
          have hPN : N ≤ P := by rw [HP.out]; exact hNN
          go_wp2_with fail
          go_loop [12, 16] (fun v i' => ∃ (j s : Nat), i' = .int .i64 j ∧ v = .int .i64 s ∧ j ≤ x ∧ s ≤ 256 * j) (fun _ i' => x - (intOf i').toNat)
          case atStart => exact ⟨0, 0, rfl, rfl, Nat.zero_le _, by omega⟩
          case round =>
            obtain ⟨j, s, rfl, rfl, hj, hs⟩ := hrel
            by_cases hjx2 : j < x
            · obtain ⟨g7, o7, e7, -, hg7, hgc⟩ := HG8.out.int (by omega)
              injection e7 with e7
              injection e7 with e1 e2
              subst e1 e2
              obtain ⟨y, hy, y0, -⟩ := hgc j (by omega)
              have hyb := Nat.le_trans (lvl_few l k hk4 j) (Nat.le_trans (Nat.pow_le_pow_right (by omega) (by omega : j ≤ 4)) (by decide : 4 ^ 4 ≤ 256))
              have hy2 : y = ((lvl l k j).length : Nat) := by
                rw [growL_get l k _ j (by omega)] at hy
                injection hy with hy
                rw [← hy, wr_small (by rw [← lvl_len]; omega), lvl_len]
              subst hy2
              generalize (lvl l k j).length = Y at *
              clear hgc hy
              go_wp2_with fail
              go_round
              case rel => exact ⟨j + 1, s + Y, by go_num, by go_num, by omega, by omega⟩
              case measure => simp [intOf]; omega
            · obtain rfl : x = j := by omega
              go_wp2_with fail
              go_ret
              exact ⟨rfl, b8⟩
set_option maxRecDepth 100000 in
theorem contract (H : Type) (enc : TypeId × Value → H) (W : World) (base : Nat) (args : Array Value) (ds gs : List (DataW H)) (before : List MemPlace)
    (hval : ∀ (j : Nat) t v, Tryd.f3.params[j]? = some t → args[j]? = some v → Value.okWide Tryd.prog W .any base t v)
    (hW : DataW.Whole enc Tryd.prog Tryd.f3.params.toList Rows.fnReducedSpec.vars false W args.toList ds gs before) (hL : laidMetH Tryd.prog Rows.fnReducedRow.laid W) :
    Calls Tryd.prog 3 args W fun e W' => ∃ v, e = .returned v ∧ Rows.fnReducedSpec.post enc Tryd.prog Tryd.f3 false true false false W args v W' := by
  have hW' := hW
  have hL' : laidMet Tryd.prog [("loop.example/g03201/impl.letters", Rows.laid_loop_example_g03201_impl_letters)] W := hL
  obtain ⟨p, q, hA0, hV, rfl, hfz, hnd⟩ := hW
  obtain ⟨g0, rfl⟩ := vars_len1 (trodVars_len hV)
  have hA : DataW.TrodAll enc Tryd.prog W 0 (fun _ => true) true Tryd.f3.params.toList args.toList ds p := hA0
  rw [Tryd.params3] at hA hval
  obtain ⟨v0, vs0, d0, ds0, p0, q0, hargs, rfl, rfl, h0, r0⟩ := trodAll_cons hA
  obtain ⟨rfl, rfl, rfl⟩ := trodAll_nil r0
  obtain rfl : args = #[v0] := by first | exact Array.toList_inj.1 hargs | exact Array.toList_inj.1 hargs.symm | (cases args; simp_all)
  obtain ⟨A0, n0, c0, rfl, B0⟩ := open_bytes Tryd.underlying22 Tryd.underlying5 (by kernel_rfl) (hval 0 22 v0 rfl rfl) h0
  refine (walk A0 n0 c0 W B0 (let_of hL')).mono fun e W' ⟨he, hb⟩ => ?_
  subst he
  exact ⟨_, rfl, law_postV hW' rfl rfl Tryd.underlying4 laidOut (by kernel_rfl) (by kernel_rfl) hb⟩

theorem laid_met (os : Os) : laidMet Tryd.prog Rows.fnReducedRow.laid ((laidWorld os).forCall (fun _ _ => 0) ⟨#[], #[.slice none 0 0], []⟩).memory :=
  laidMet_of_run' 8 (by kernel_rfl) (by kernel_rfl)
theorem reads (os : Os) {H : Type} (enc : TypeId × Value → H) : ∃ places, DataW.whole enc Tryd.prog ((laidWorld os).forCall (fun _ _ => 0) ⟨#[], #[.slice none 0 0], []⟩).memory Tryd.f3.params.toList Rows.fnReducedSpec.vars false (#[.slice none 0 0] : Array Value).toList 8 = some ([.nil], [Rows.laid_loop_example_g03201_impl_letters], places) :=
  ⟨MemPlace.row ⟨0, 0, none⟩ 4, by kernel_rfl⟩
set_option maxRecDepth 100000 in
theorem lifted (os : Os) (started : os.Started) (H : Type) (enc : TypeId × Value → H) (F : Stop.Interp) :
    ReturnsInHanded {} Tryd.checked os 3 .any ((OpenSpec.ofChange Rows.fnReducedSpec).preRow enc Tryd.prog Tryd.f3 Rows.fnReducedRow.domain false Rows.fnReducedRow.laid) (((OpenSpec.ofChange Rows.fnReducedSpec).at F).post enc Tryd.prog Tryd.f3 false true false false) := by
  obtain ⟨places, hx⟩ := reads os enc
  refine returnsInHanded_of_row (C := Tryd.checked) (s := OpenSpec.ofChange Rows.fnReducedSpec) own started (by kernel_rfl) Tryd.func3
    (witness_row_at (enc := enc) (C := Tryd.checked) false (laidWorld os) #[.slice none 0 0] rfl (by kernel_rfl) (by kernel_rfl) (by kernel_rfl)
      (OpenSpec.preRow_of_cond 8 hx (by kernel_rfl) (fun k hk => by cases hk) (by kernel_rfl) (laid_met os))) ?_
  intro W base args ds gs before hval hW _ _ _ hL _ _
  exact contract H enc W base args ds gs before hval hW hL
theorem said : Rows.FnReducedSaid :=
  OpenClaim.holds_of_cond 3 Tryd.f3 rfl rfl rfl rfl rfl rfl rfl ⟨rfl, rfl, rfl, rfl, rfl⟩ rfl rfl rfl rfl rfl (by kernel_rfl) Tryd.func3 (by kernel_rfl)
    (of_decide_eq_true (by kernel_rfl)) (by unfold Func.isWrapper; first | (rw [if_pos (by decide +kernel)]; kernel_rfl) | (rw [if_neg (by decide +kernel)]; exact ⟨rfl, rfl⟩))
    (fun os started H enc _ F => by rw [OpenClaim.pre_eq_preRow]; exact lifted os started H enc F)
theorem plain (f : FuncId) (fn : Func) (hf : Tryd.pinned.checked.prog.funcNamed Rows.fnReducedRow.func = some f) (hfn : Tryd.pinned.checked.prog.funcs[f]? = some fn) :
    false = Tryd.pinned.checked.prog.looks [] ∧ ∀ (j : Nat) t, fn.params[j]? = some t → Tryd.pinned.checked.prog.wantsStandIn t = false := by
  obtain rfl : f = 3 := Option.some.inj ((show Tryd.prog.funcNamed Rows.fnReducedRow.func = some 3 by kernel_rfl).symm.trans hf) |>.symm
  obtain rfl : fn = Tryd.f3 := (Option.some.inj (Tryd.func3.symm.trans hfn)).symm
  refine ⟨by kernel_rfl, fun j t ht => ?_⟩
  rw [Tryd.params3] at ht
  match j, ht with
  | 0, ht => (simp at ht; subst ht; exact (show Tryd.prog.wantsStandIn 22 = false by kernel_rfl))
  | n + 1, ht => simp at ht
theorem proved : Rows.FnReducedCardSaid :=
  Claim7.holds_tied_plain_at .later [] _ _ _ _ said (fun _ h => by cases h) (by kernel_rfl) (fun _ h => by cases h) fnReduced_row_tie rfl ⟨rfl, rfl⟩ (by kernel_rfl) rfl plain (by kernel_rfl)
end Go.Proofs.YtfkojahoaljiaaaDoor.fnReduced

