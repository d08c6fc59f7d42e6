/- NormalForm, FarForm, TraceOf: the program's. -/
import Derived.Test.YtomejfebmibfjaaDoorReduction
namespace Go.Proofs.YtomejfebmibfjaaDoor
open Go.RowKit Go.Shelf
attribute [local go_sem] Oper.semAt_some

theorem lastOf_snoc (s : ByteArray) (pre : List (ST × ByteArray)) (x : ST × ByteArray) : lastOf s (pre ++ [x]) = x.2 := by rw [lastOf]; simp
set_option maxRecDepth 100000 in
set_option maxHeartbeats 2000000 in
theorem lastWord_any (k : Int) (A : Option Addr) (n c B : Nat) (l : List R) (s : ByteArray) (d : Int) (w : World) (h : Own B w (.slice A n c) 2 n (rulesC l)) (hsm : smallR l) (hs : s.size ≤ 1048576) (hlet : Let w) :
    Calls Tryd.prog 67 #[.agg #[.int .i64 k, .slice A n c], .string s, .int .i64 d] w fun e w' => e = .returned (.tuple #[.string (formS k l s d).1, .bool (formS k l s d).2]) ∧ Below w.heap.size w w' := by
  have HO := Lib.hid h
  have Hlen := Lib.hid h.rlen
  have HL := Lib.hid (fun (w' : World) (hb : Below w.heap.size w w') => hlet.keep hb (Nat.le_refl _))
  clear h hlet
  refine (callsIn_wide (n := 6)).1 ?_
  refine callsIn_of_wp_marks Tryd.func67 rfl trivial ?_ rfl
  simp only [Tryd.ntmps67, List.size_toArray, List.length_cons, List.length_nil, Nat.reduceAdd, Nat.reduceSub, Array.replicate_succ, Array.replicate_zero, List.push_toArray, List.append_toArray, List.nil_append, List.cons_append]
  gi_wp2_with fail
  refine ⟨trivial, (callsIn_wide.2 (canReduce_any k A n c B l s _ (HO.out.below (bel1 _ _)) hsm hs (HL.out _ (bel1 _ _)))).mono ?_⟩
  rintro e w1 ⟨rfl, hb1⟩
  have b1 := (bel1 w _).trans (hb1.mono (by simp))
  have HB1 := Lib.hid ((Blk.new1 w _ _).below hb1 (by simp))
  obtain ⟨q0, q1, -, -, ql⟩ := HB1.out.two
  clear hb1
  cases h1 : canRed k l s
  · have HF : Hid (formS k l s d = (⟨#[]⟩, false)) := by show _ = _; rw [formS, h1]; rfl
    clear h1
    gi_wp2_with fail
    refine ⟨.tuple #[.string ⟨#[]⟩, .bool false], ?_, ret_sb HF.out.symm, b1⟩
    simp [results, Tryd.f67, go_sem]
  · have HF : Hid (formS k l s d = (formOf l d s, true)) := by show _ = _; rw [formS, if_pos h1]
    have Hcan := Lib.hid h1
    have hn12 : n ≤ 12 := by rw [← Hlen.out]; exact rulesOk_len (canRed_rules h1)
    clear h1
    have b2 := b1.alloc b1.size (.cells #[.string s] 9)
    have HB2 := Lib.hid (HB1.out.alloc (.cells #[.string s] 9))
    have HS2 := Lib.hid (Blk.new1 w1 #[.string s] 9)
    clear q0 q1 ql
    obtain ⟨q0, q1, -, -, ql⟩ := HB2.out.two
    gi_wp2_with fail
    refine ⟨trivial, (callsIn_wide.2 (reduction_any k A n c s d _)).mono ?_⟩
    rintro e w3 ⟨rfl, hw3⟩
    gi_wp2_with fail
    clear q0 q1 ql
    have hsz : w3.heap.size = w1.heap.size + 4 := by rw [hw3]; simp
    have R3 : Blk w3 w1.heap.size 9 #[.string s] := by rw [hw3]; exact ((HS2.out.alloc _).alloc _).alloc _
    have b3 : Below w.heap.size w w3 := by rw [hw3]; exact b2.trans ((bel3 _ _ _ _).mono b2.size)
    have hws1 := b1.size
    have hS : SeqAt l s d (w1.heap.size + 1) (w1.heap.size + 1 + 1) (w1.heap.size + 1 + 2) (fun k => k < w3.heap.size ∧ k ≠ w1.heap.size) w3 := by
      refine ⟨⟨k, A, n, c, B, ?_, HO.out.below b3, hn12, fun hn => ?_⟩, ?_, ?_, ⟨by omega, by omega⟩, ⟨by omega, by omega⟩, ⟨by omega, by omega⟩⟩
      · rw [hw3]; exact ((Blk.new2 _ _ _ _).alloc _).alloc _
      · have := (HO.out.blk_lt hn).2; exact ⟨by omega, by omega⟩
      · rw [hw3]; exact (Blk.new3 _ _ _ _ _).alloc _
      · rw [hw3]; exact Blk.new4 _ _ _ _ _ _
    have e0 : (((w1.alloc (.cells #[.string s] 9)).alloc (.cells #[.int .i64 k, .slice A n c] 30)).alloc (.cells #[.string s] 9)).alloc (.cells #[.int .i64 d] 89) = w3 := hw3.symm
    rw [e0]
    clear e0 hw3 b2 HB2 HS2
    refine wpIn_rangeFunc_ownG rfl (by omega) (gf := 89) (lb := #[.pointer (some ⟨w1.heap.size + 1 + 1, 0, none⟩), .pointer (some ⟨w1.heap.size + 1, 0, none⟩), .pointer (some ⟨w1.heap.size + 1 + 2, 0, none⟩)]) rfl trivial (enters_of Tryd.func89 (by kernel_rfl) rfl)
      (reds_stops 5 (by omega) k l s d Hcan.out hsm _ _ _ _ w3 hS (fun _ h => h.1)) keeps_t (keeps_b (fun _ h => h.1)) (Below.refl _ _) (fun _ => rfl)
      (fun pre W => Blk W w1.heap.size 9 #[.string (lastOf s pre)] ∧ Below w.heap.size w W)
      (fun _ _ _ => False)
      (OwnFrom.and (fun _ _ _ _ h hg hr => blk_kept h hg (fun r e => (hr r e).2)) (ownFrom_below (Nat.le_refl _) (by omega)))
      (fun _ _ _ _ _ hs _ _ => hs)
      ⟨R3, b3⟩
      (fun x => { tmps := #[.agg #[.int .i64 k, .slice A n c], .string s, .int .i64 d, .pointer (some ⟨w.heap.size, 0, none⟩), undef, undef, .string ⟨#[]⟩, .bool false, .pointer (some ⟨w1.heap.size, 0, none⟩), undef, .string x.2, .agg #[.int .i64 k, .slice A n c], .string s, .bool true, .bool false, .string s, .agg #[.int .i64 k, .slice A n c], .string s, .int .i64 d, .func (.func 89) #[] #[.pointer (some ⟨w1.heap.size + 1 + 1, 0, none⟩), .pointer (some ⟨w1.heap.size + 1, 0, none⟩), .pointer (some ⟨w1.heap.size + 1 + 2, 0, none⟩)], stepV x.1, .string x.2, undef, undef], defers := [] })
      ?assign ?body ?done ?stop
    case assign =>
      intro lp x W K hK
      gi_wp2_with fail
      exact hK
    case body =>
      rintro lp pre x W ⟨h2, h4⟩ hlt
      have z0 := h2.cell 0
      have zf := h2.frozen 0
      gi_wp2_with fail
      refine ⟨(KeepsOthers.setCell _ _ _).from _, ⟨by simp [World.size_setCell], fun j hj => Below.heap_setCell _ _ _ _ hj.2⟩, ?_, h4.setCell (by show w.heap.size ≤ w1.heap.size; omega) _⟩
      rw [lastOf_snoc]
      exact h2.set_ 0 (.string x.2)
    case done =>
      rintro D ys W hD rfl ⟨h2, h4⟩ hK
      have z0 := h2.cell 0
      have hws := h4.size
      gi_wp2_with fail
      refine ⟨by simp, .inl ⟨_, _, rfl, run_takeDeferred hK, ?_⟩⟩
      refine ⟨.tuple #[.string (lastOf s (redsOf l d s)), .bool true], ?_, by rw [HF.out]; rfl, h4.trans (belowK_b (w := w) (Nat.le_refl _) _ D _ _ (by omega) hK rfl rfl)⟩
      simp [results, Tryd.f67, go_sem]
    case stop =>
      rintro D c pre W hD _ h _
      exact h.elim

set_option maxHeartbeats 800000 in
theorem implNormalForm (k : Int) (A : Option Addr) (n c B : Nat) (l : List R) (s : ByteArray) (w : World) (h : Own B w (.slice A n c) 2 n (rulesC l)) (hsm : smallR l) (hs : s.size ≤ 1048576) (hlet : Let w) :
    Calls Tryd.prog 48 #[.agg #[.int .i64 k, .slice A n c], .string s] w fun e w' => e = .returned (.tuple #[.string (formS k l s 0).1, .bool (formS k l s 0).2]) ∧ Below w.heap.size w w' := by
  have HO := Lib.hid h
  have HL := Lib.hid (fun (w' : World) (hb : Below w.heap.size w w') => hlet.keep hb (Nat.le_refl _))
  clear h hlet
  go_enter Tryd.func48, Tryd.ntmps48
  go_wp2_with fail
  refine (lastWord_any k A n c B l s 0 _ (HO.out.below (bel1 _ _)) hsm hs (HL.out _ (bel1 _ _))).mono ?_
  rintro e w1 ⟨rfl, hb1⟩
  have b1 := (bel1 w _).trans (hb1.mono (by simp))
  clear hb1
  obtain ⟨rr, hrr⟩ : ∃ rr, formS k l s 0 = rr := ⟨_, rfl⟩
  have HF := Lib.hid hrr
  rw [hrr]
  clear hrr
  obtain ⟨r1, r2⟩ := rr
  go_wp2_with fail
  go_ret2
  exact ⟨ret_sb HF.out.symm, b1⟩
end Go.Proofs.YtomejfebmibfjaaDoor
