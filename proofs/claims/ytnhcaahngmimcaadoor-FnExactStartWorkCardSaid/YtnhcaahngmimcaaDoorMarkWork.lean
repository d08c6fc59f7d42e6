/- Works: the laws' markWork, heldWork. -/
import Derived.Test.YtnhcaahngmimcaaDoorWork
namespace Go.Proofs.YtnhcaahngmimcaaDoor
open Go.RowKit
/-- What lay stands, but for two slices' blocks. -/
def Kept2 (A : Option Addr) (n : Nat) (Q : Option Addr) (m : Nat) (w w' : World) : Prop := ∀ d, d < w.heap.size → (0 < n → d ≠ blockOf A) → (0 < m → d ≠ blockOf Q) → w'.heap[d]? = w.heap[d]?
theorem Kept2.blk {A Q : Option Addr} {n m : Nat} {w w' : World} {d : Nat} {t : TypeId} {cs : Array Value} (h : Kept2 A n Q m w w') (hb : Blk w d t cs) (hn : 0 < n → d ≠ blockOf A) (hm : 0 < m → d ≠ blockOf Q) : Blk w' d t cs := (h d hb.lt hn hm).trans hb
theorem Own.kept2 {B n N m z c : Nat} {w w' : World} {A A' Q : Option Addr} {xs : List Value} (h : Own B w (.slice A' N c) m N xs) (hk : Kept2 A n Q z w w') (hs : w.heap.size ≤ w'.heap.size) (hne : 0 < N → 0 < n → blockOf A' ≠ blockOf A) (hne' : 0 < N → 0 < z → blockOf A' ≠ blockOf Q) : Own B w' (.slice A' N c) m N xs := by
  obtain ⟨h1, A0, c0, hv, hc, hm, h2⟩ := h
  obtain ⟨rfl, rfl⟩ : A' = A0 ∧ c = c0 := by injection hv with a _ b; exact ⟨a, b⟩
  refine ⟨h1, A', c, rfl, hc, hm, fun hn => ?_⟩
  obtain ⟨g, off, rfl, hg, hlt, r⟩ := h2 hn
  have hh := hk g hlt (fun hp => hne hn hp) (fun hp => hne' hn hp)
  refine ⟨g, off, rfl, hg, by omega, fun j hj => ?_⟩
  exact ⟨(World.cell?_of_block (w := w) (a := ⟨g, off + j, none⟩) hh).trans (r j hj).1, (World.frozen?_of_block (w := w) (a := ⟨g, off + j, none⟩) hh).trans (r j hj).2⟩
set_option maxHeartbeats 800000 in
theorem markWork_any (x t k : Int) (A Q : Option Addr) (n c m d B : Nat) (l q : List R) (w : World) (h : Own B w (.slice A n c) 2 n (rulesC l)) (h' : Own B w (.slice Q m d) 2 m (rulesC q)) (hne : 0 < n → 0 < m → blockOf A ≠ blockOf Q) (hB : B ≤ w.heap.size) (h0 : 0 ≤ k) (hk : k + 2 * n + 2 * m ≤ 4611686018427387000) :
    Calls Tryd.prog 42 #[workV x A n c Q m d t, .int .i64 k] w fun e w' => e = .returned (.int .i64 (k + 2 * n + 2 * m)) ∧ Own B w' (.slice A n c) 2 n (rulesC (marksR k n)) ∧ Own B w' (.slice Q m d) 2 m (rulesC (marksR (k + 2 * n) m)) ∧ Below B w w' ∧ Kept2 A n Q m w w' := by
  have HO := Lib.hid (fun o1 => h.below (bel1 w o1))
  have HQ := Lib.hid (fun o1 => h'.below (bel1 w o1))
  have hlA := Lib.hid (fun hn => (h.blk_lt hn).2)
  have hlQ := Lib.hid (fun hn => (h'.blk_lt hn).2)
  have Hne := Lib.hid hne
  clear h h' hne
  go_enter Tryd.func42, Tryd.ntmps42
  go_wp2_with fail
  refine (markSystem_any x k A n c B l _ (HO.out _) (by simp; omega) h0 (by omega)).mono ?_
  rintro e w1 ⟨rfl, o1, hb1, k1⟩
  have hs1 := hb1.size
  simp only [World.size_alloc] at hs1
  have P1 := Lib.hid (k1.blk (Blk.new1 w _ _) (fun hn => by have := hlA.out hn; omega))
  have Q1 := Lib.hid (Own.keptA (HQ.out _) k1 (by simp; omega) (fun hm hn => Ne.symm (Hne.out hn hm)))
  have b1 := ((bel1 w _).mono hB).trans hb1
  have O1 := Lib.hid o1
  have K1 : Hid (KeptA A n w w1) := fun d hd hn => (k1 d (by simp; omega) hn).trans (Below.heap_alloc _ _ _ hd)
  clear o1 hb1 k1
  obtain ⟨d0, d1, d2, d3, -, -, -, -, l1⟩ := P1.out.four
  go_wp2_with fail
  refine (markRuleS_any Q m d B (k + 2 * n) q _ Q1.out (by omega) (by omega) (by omega)).mono ?_
  rintro e w2 ⟨rfl, q2, hb2, k2⟩
  have hs2 : w1.heap.size ≤ w2.heap.size := hb2.size
  have O2 := Lib.hid (Own.keptA O1.out k2 hs2 (fun hn hm => Hne.out hn hm))
  have K2 : Hid (Kept2 A n Q m w w2) := fun d hd hn hm => (k2 d (by omega) hm).trans (K1.out d hd hn)
  have b2 := b1.trans hb2
  have Q2 := Lib.hid q2
  clear hb2 k2 q2 d0 d1 d2 d3 l1
  go_wp2_with fail
  go_ret
  exact ⟨rfl, O2.out, Q2.out, b2, K2.out⟩
set_option maxHeartbeats 800000 in
theorem heldWork_yes (x t k : Int) (A Q : Option Addr) (n c m d B D : Nat) (w : World) (h : Own B w (.slice A n c) 2 n (rulesC (marksR k n))) (h' : Own D w (.slice Q m d) 2 m (rulesC (marksR (k + 2 * n) m))) (h0 : 0 ≤ k) (hk : k + 2 * n + 2 * m ≤ 4611686018427387000) :
    Calls Tryd.prog 43 #[workV x A n c Q m d t, .int .i64 k] w fun e w' => e = .returned (.int .i64 (k + 2 * n + 2 * m)) ∧ Below w.heap.size w w' := by
  have HO := Lib.hid (fun o1 => h.below (bel1 w o1))
  have HQ := Lib.hid (fun (w' : World) (hb : Below w.heap.size w w') => h'.below hb)
  clear h h'
  go_enter Tryd.func43, Tryd.ntmps43
  go_wp2_with fail
  refine (heldSystem_yes x k A n c B _ (HO.out _) h0 (by omega)).mono ?_
  rintro e w1 ⟨rfl, hb1⟩
  have P1 := Lib.hid ((Blk.new1 w _ _).below hb1 (by simp))
  have b1 := (bel1 w _).trans (hb1.mono (by simp))
  clear hb1
  obtain ⟨d0, d1, d2, d3, -, -, -, -, l1⟩ := P1.out.four
  have hk1 : ¬ k + 2 * (n : Int) < 0 := by omega
  go_wp2_with fail
  refine (heldRuleS_yes Q m d D (k + 2 * n) _ (HQ.out _ b1) (by omega) (by omega)).mono ?_
  rintro e w2 ⟨rfl, hb2⟩
  have b2 := b1.trans (hb2.mono b1.size)
  clear hb2
  have hk2 : ¬ k + 2 * (n : Int) + 2 * (m : Int) < 0 := by omega
  go_wp2_with fail
  go_ret
  exact ⟨rfl, b2⟩
end Go.Proofs.YtnhcaahngmimcaaDoor
