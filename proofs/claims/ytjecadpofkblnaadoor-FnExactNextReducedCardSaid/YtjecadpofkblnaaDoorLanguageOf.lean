/- The language of a system: languageOf. -/
import Derived.Test.YtjecadpofkblnaaDoorLanguage
namespace Go.Proofs.YtjecadpofkblnaaDoor
open Go.RowKit Go.Maps

theorem LangS.mono {W : World} {b0 b1 gL mA k c c' : Nat} {Q : List E} {F : E → Nat → Option E} (h : LangS W b0 gL mA k c Q F) (hb : b1 ≤ b0) (hc : c ≤ c') : LangS W b1 gL mA k c' Q F := by
  obtain ⟨⟨A, cap, h1, h2, h3⟩, h4, h5, h6⟩ := h
  refine ⟨⟨A, cap, h1, h2, ?_⟩, h4.mono moveK hc, by omega, by omega⟩
  rcases h3 with h3 | ⟨g, cp, cur, e, hg, r⟩
  · exact Or.inl h3
  · exact Or.inr ⟨g, cp, cur, e, by omega, r⟩

set_option maxRecDepth 100000 in
set_option maxHeartbeats 2000000 in
theorem languageOf_any (k : Nat) (A : Option Addr) (n c B : Nat) (l : List R) (w : World) (h : Own B w (.slice A n c) 2 n (rulesC l)) (hl : ∀ r ∈ l, r.1.size ≤ 8) (h12 : l.length ≤ 12) (hk : k ≤ 4) (hlet : Let w) :
    Calls Tryd.prog 34 #[.agg #[.int .i64 k, .slice A n c]] w fun y w' => ∃ gL mA Q, y = .returned (.pointer (some ⟨gL, 0, none⟩)) ∧ LangS w' w.heap.size gL mA k 1000 Q (aftQ l k Q) ∧ Ends l k Q ∧ Below w.heap.size w w' := by
  have HRb : Hid (∀ w', Below w.heap.size w w' → Own B w' (.slice A n c) 2 n (rulesC l)) := fun w' hb => h.below hb
  have HLet : Hid (∀ w', Below w.heap.size w w' → Let w') := fun w' hb => hlet.keep hb (Nat.le_refl _)
  have Hl := Lib.hid hl
  have H12 := Lib.hid h12
  have hmm := @run_makeMap Tryd.prog
  clear h hl h12 hlet
  go_enter Tryd.func34, Tryd.ntmps34
  go_wp2_with fail
  obtain ⟨w1, hw1⟩ : ∃ x, x = (((w.alloc (.cells #[.int .i64 k, .slice A n c] 25)).alloc (.cells #[.int .i64 0, .int .i64 0] 97)).alloc (.map #[] 0)).alloc (.cells #[.int .i64 k, .slice (some ⟨w.heap.size + 1, 0, none⟩) 1 1, .map (some (w.heap.size + 1 + 1))] 101) := ⟨_, rfl⟩
  have HS1 : Hid (Blk w1 w.heap.size 25 #[.int .i64 k, .slice A n c]) := by rw [hw1]; exact (((Blk.new1 w _ _).alloc _).alloc _).alloc _
  have hsz1 : w1.heap.size = w.heap.size + 4 := by rw [hw1]; simp
  have b1 : Below (w.heap.size + 1) (w.alloc (.cells #[.int .i64 k, .slice A n c] 25)) w1 := by rw [hw1]; have := bel3 (w.alloc (.cells #[.int .i64 k, .slice A n c] 25)) (.cells #[.int .i64 0, .int .i64 0] 97) (.map #[] 0) (.cells #[.int .i64 k, .slice (some ⟨w.heap.size + 1, 0, none⟩) 1 1, .map (some (w.heap.size + 1 + 1))] 101); rwa [World.size_alloc] at this
  have HL1 : Hid (LangS w1 (w.heap.size + 1) (w.heap.size + 1 + 1 + 1) (w.heap.size + 1 + 1) k (4 * 0) [(0, 0)] (aftF l k [(0, 0)] 0 0)) := by
    refine ⟨⟨some ⟨w.heap.size + 1, 0, none⟩, 1, ?_, rfl, Or.inr ⟨w.heap.size + 1, 1, #[.int .i64 0, .int .i64 0], rfl, Nat.le_refl _, ?_, Nat.le_refl _, by unfold maxLen; omega, rfl, rfl⟩⟩, ?_, by omega, by omega⟩
    · rw [hw1]; exact Blk.new4 w _ _ _ _ _
    · rw [hw1]; exact ((Blk.new2 w _ _ _).alloc _).alloc _
    · rw [hw1, aftV_none (aftF_start l k _)]
      have := (MapOf.made moveK ((w.alloc (.cells #[.int .i64 k, .slice A n c] 25)).alloc (.cells #[.int .i64 0, .int .i64 0] 97))).alloc moveK (.cells #[.int .i64 k, .slice (some ⟨w.heap.size + 1, 0, none⟩) 1 1, .map (some (w.heap.size + 1 + 1))] 101)
      rwa [World.size_alloc, World.size_alloc] at this
  have hB1 : Below w.heap.size w w1 := (bel1 w _).trans (b1.mono (by omega))
  rw [← hw1]
  clear hw1 b1
  go_loopw [4] (fun i wr => ∃ (a : Nat) (Q : List E), i = .int .i64 a ∧ Hid (LangAt l k Q a 0) ∧ Hid (LangS wr (w.heap.size + 1) (w.heap.size + 1 + 1 + 1) (w.heap.size + 1 + 1) k (4 * a) Q (aftF l k Q a 0)) ∧ Hid (Blk wr w.heap.size 25 #[.int .i64 k, .slice A n c]) ∧ Below w.heap.size w wr ∧ w.heap.size + 4 ≤ wr.heap.size) (fun i _ => 108 - (intOf i).toNat)
  case atStart => exact ⟨0, [(0, 0)], rfl, LangAt.start l k, HL1, HS1, hB1, by omega⟩
  case round =>
    obtain ⟨a, Q, rfl, HA, HL, HS, hb, hsz⟩ := hrel
    have hQl := HA.out.len Hl.out H12.out
    have hle := HA.out.le
    obtain ⟨⟨A2, cap, hblk, hrow⟩, -, -, -⟩ := HL.out
    obtain ⟨s0, s1, -, -, sl⟩ := HS.out.two
    have g1 : wr.cell? ⟨w.heap.size + 1 + 1 + 1, 1, none⟩ = some (.slice A2 Q.length cap) := hblk.cell 1
    by_cases hlt : a < Q.length
    · obtain ⟨g, off, c0, hv⟩ := (Own.of_row hrow).formR (by omega)
      obtain ⟨rfl, rfl⟩ : A2 = some ⟨g, off, none⟩ ∧ cap = c0 := by injection hv with a _ b; exact ⟨a, b⟩
      clear hv
      obtain ⟨-, hgl, e, he, x0, x1⟩ := (Own.of_row hrow).endAt hlt
      have He := Lib.hid he
      clear hblk hrow he
      go_wp2_with fail
      go_still_tail 9, (by kernel_rfl)
      change wpList _ _ _ _ _ wr.drew
      go_wp2_with fail
      have hdr : Below wr.heap.size wr wr.drew := (Below.refl _ wr).drew
      refine (addMoves_any k A n c B l (w.heap.size + 1) (w.heap.size + 1 + 1 + 1) (w.heap.size + 1 + 1) (4 * a) a Q e wr.drew Hl.out H12.out hk
        (fun w' hw => HLet.out w' (hb.trans ((hdr.mono (by omega)).trans (hw.mono (by omega))))) (fun w' hw => HRb.out w' (hb.trans ((hdr.mono (by omega)).trans (hw.mono (by omega))))) (by simp; omega) (HL.out.below hdr) HA.out He.out (by omega)).mono ?_
      rintro y w2 ⟨⟨v, rfl⟩, Q', hL2, hA2, hb2⟩
      have hb3 : Below (w.heap.size + 1) wr w2 := (hdr.mono (by omega)).trans hb2
      have HL2 := Lib.hid hL2
      have HA2 := Lib.hid hA2
      have HS2 := Lib.hid (HS.out.below hb3 (by omega))
      have hb4 := hb.trans (hb3.mono (by omega))
      have hs4 := hb3.size
      clear hL2 hA2 hb2 hb3 s0 s1 sl g1 x0 x1 hgl
      go_wp2_with fail
      go_roundw
      case rel => exact ⟨a + 1, Q', by go_num, HA2, HL2, HS2, hb4, by omega⟩
      case measure => simp [intOf]; omega
    · have hla : a = Q.length := by omega
      have HL3 := HL.out
      have HA3 := HA.out
      rw [hla] at HL3 HA3
      rw [aftF_end] at HL3
      have HL4 := Lib.hid (HL3.mono (b1 := w.heap.size) (c' := 1000) (by omega) (by omega))
      have HA4 := Lib.hid HA3.ends
      clear HL3 HA3 hblk hrow
      go_wp2_with fail
      go_ret
      exact ⟨_, _, Q, rfl, HL4.out, HA4.out, hb⟩
end Go.Proofs.YtjecadpofkblnaaDoor
