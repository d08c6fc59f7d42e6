/- The program's monoidFrom, monoidWith, TableOk. -/
import Derived.Test.YtlehdmflnglipaaDoorMon
namespace Go.Proofs.YtlehdmflnglipaaDoor
open Go.RowKit

def FromPost (q : Int) (xs : List Int) (B : Nat) (e : Ending) (w' : World) : Prop :=
  (∃ (N : Nat) (g : Nat), q = N ∧ TabOk N xs ∧ e = .returned (.tuple #[.pointer (some ⟨g, 0, none⟩), .bool true]) ∧ B ≤ g ∧ MonAt w' g N xs) ∨ (tableOk q xs = false ∧ e = .returned (.tuple #[.pointer none, .bool false]))
set_option maxRecDepth 100000 in
set_option maxHeartbeats 1600000 in
theorem monoidFrom_any (q : Int) (A : Option Addr) (n c B : Nat) (xs : List Int) (w : World) (h : Own B w (.slice A n c) 1 n (ints xs)) :
    Calls Tryd.prog 43 #[tabV q A n c] w fun e w' => FromPost q xs w.heap.size e w' ∧ Below w.heap.size w w' := by
  have hlen := h.ilen
  by_cases hq0 : q < 1
  · have He := Lib.hid (tableOk_no (n := q) (xs := xs) (fun m e h => by have := h.lo; omega))
    clear h hlen
    go_enter Tryd.func43, Tryd.ntmps43
    go_wp2_with fail
    go_ret2
    exact ⟨.inr ⟨He.out, rfl⟩, bel1 _ _⟩
  by_cases hq1 : 40 < q
  · have He := Lib.hid (tableOk_no (n := q) (xs := xs) (fun m e h => by have := h.hi; omega))
    clear h hlen
    go_enter Tryd.func43, Tryd.ntmps43
    go_wp2_with fail
    go_ret2
    exact ⟨.inr ⟨He.out, rfl⟩, bel1 _ _⟩
  obtain ⟨N, rfl⟩ : ∃ N : Nat, q = N := ⟨q.toNat, by omega⟩
  have h1 : 1 ≤ N := by omega
  have h40 : N ≤ 40 := by omega
  have hsq := sq_le h40
  have hsq0 : 0 ≤ (N : Int) * (N : Int) := by omega
  clear hq0 hq1
  have HO := Lib.hid h
  have Hlen := Lib.hid hlen
  clear h hlen
  by_cases hnn : n = N * N
  · have e1 : ((n : Int) != (N : Int) * (N : Int)) = false := by simp; omega
    have Hnn := Lib.hid hnn
    clear hnn
    go_enter Tryd.func43, Tryd.ntmps43
    go_wp2_with fail
    clear e1
    have X1 := Lib.hid (Blk.new1 w #[.int .i64 (N : Int), .slice A n c] 35)
    have b1 := bel1 w (.cells #[.int .i64 (N : Int), .slice A n c] 35)
    have O1 := Lib.hid (HO.out.below b1)
    generalize w.alloc (.cells #[.int .i64 (N : Int), .slice A n c] 35) = w1 at *
    refine (numbersUpTo_any N _ h40).mono ?_
    rintro e w2 ⟨v2, rfl, o2, hb2⟩
    obtain ⟨E, c2, rfl⟩ := o2.form
    have X2 := Lib.hid (X1.out.below hb2 X1.out.lt)
    have O2 := Lib.hid (O1.out.below hb2)
    have b2 := b1.trans (hb2.mono b1.size)
    have E2 := Lib.hid o2
    clear hb2 o2 X1 O1 b1
    go_wp2_with fail
    refine (multiplied_any w.heap.size N n c B _ c2 A E xs _ X2.out O2.out E2.out Hnn.out h1 h40).mono ?_
    rintro e w3 ⟨hm, hb3⟩
    have b3 := b2.trans (hb3.mono b2.size)
    have hge := b2.size
    clear X2 O2 E2
    rcases hm with ⟨hr, rfl, hM⟩ | ⟨hr, rfl⟩
    · have HM := Lib.hid hM
      have HR := Lib.hid hr
      clear hM hr
      cases hc1 : cdec (IdOk N xs)
      · have He := Lib.hid (tableOk_not (n := N) (xs := xs) (fun h => not_cdec hc1 h.idOk))
        have Hc1 := Lib.hid hc1
        clear hc1
        go_wp2_with fail
        refine (hasIdentity_any w2.heap.size N xs w3 HM.out h1 h40 HR.out).mono ?_
        rw [Hc1.out]
        rintro e w4 ⟨rfl, rfl⟩
        go_wp2_with fail
        go_ret2
        exact ⟨.inr ⟨He.out, rfl⟩, b3⟩
      · have Hc1 := Lib.hid hc1
        clear hc1
        go_wp2_with fail
        refine (hasIdentity_any w2.heap.size N xs w3 HM.out h1 h40 HR.out).mono ?_
        rw [Hc1.out]
        rintro e w4 ⟨rfl, rfl⟩
        cases hc2 : cdec (∀ i k, i < N → k < N → AsOk N xs i k)
        · have He := Lib.hid (tableOk_not (n := N) (xs := xs) (fun h => not_cdec hc2 (fun i k hi hk => h.asOk hi hk)))
          have Hc2 := Lib.hid hc2
          clear hc2
          go_wp2_with fail
          refine (isAssociative_any w2.heap.size N xs w3 HM.out h40 HR.out).mono ?_
          rw [Hc2.out]
          rintro e w5 ⟨rfl, m, rfl⟩
          go_wp2_with fail
          go_ret2
          exact ⟨.inr ⟨He.out, rfl⟩, below_drewN b3 _⟩
        · have HT := Lib.hid (tabOk_of h1 h40 (by rw [Hlen.out, Hnn.out]) HR.out (of_cdec Hc1.out) (of_cdec hc2))
          have Hc2 := Lib.hid hc2
          clear hc2
          go_wp2_with fail
          refine (isAssociative_any w2.heap.size N xs w3 HM.out h40 HR.out).mono ?_
          rw [Hc2.out]
          rintro e w5 ⟨rfl, m, rfl⟩
          go_wp2_with fail
          go_ret2
          exact ⟨.inl ⟨N, w2.heap.size, rfl, HT.out, rfl, hge, HM.out.drewN _⟩, below_drewN b3 _⟩
    · have He := Lib.hid (tableOk_not (n := N) (xs := xs) (fun h => hr h.rng))
      clear hr
      go_wp2_with fail
      go_ret2
      exact ⟨.inr ⟨He.out, rfl⟩, b3⟩
  · have He := Lib.hid (tableOk_not (n := N) (xs := xs) (fun h => hnn (by have := h.len; have := Hlen.out; omega)))
    have e1 : ((n : Int) != (N : Int) * (N : Int)) = true := by simp; omega
    clear hnn
    go_enter Tryd.func43, Tryd.ntmps43
    go_wp2_with fail
    go_ret2
    exact ⟨.inr ⟨He.out, rfl⟩, bel1 _ _⟩
noncomputable def elemOk (q : Int) (xs : List Int) (i : Int) : Bool := tableOk q xs && (decide (0 ≤ i) && decide (i ≤ q - 1))
theorem elemOk_yes {N : Nat} {xs : List Int} {i : Nat} (hT : TabOk N xs) (hi : i < N) : elemOk N xs i = true := by
  unfold elemOk; rw [tableOk_yes hT]; simp; omega
theorem elemOk_iff {q : Int} {xs : List Int} {i : Int} (h : elemOk q xs i = true) : ∃ N k : Nat, q = N ∧ i = k ∧ TabOk N xs ∧ k < N := by
  unfold elemOk at h
  simp only [Bool.and_eq_true, decide_eq_true_eq] at h
  obtain ⟨N, rfl, hT⟩ := tableOk_iff h.1
  exact ⟨N, i.toNat, rfl, by omega, hT, by omega⟩
theorem elemOk_tab {q : Int} {xs : List Int} (i : Int) (h : tableOk q xs = false) : elemOk q xs i = false := by unfold elemOk; rw [h, Bool.false_and]
theorem elemOk_no {N : Nat} {xs : List Int} {i : Int} (h : i < 0 ∨ (N : Int) ≤ i) : elemOk N xs i = false := by
  unfold elemOk
  rw [Bool.and_eq_false_iff]; right
  rw [Bool.and_eq_false_iff, decide_eq_false_iff_not, decide_eq_false_iff_not]; omega
noncomputable def allOk (q : Int) (xs es : List Int) : Bool := tableOk q xs && es.all (elemOk q xs)
def WithPost (q : Int) (xs es : List Int) (B : Nat) (e : Ending) (w' : World) : Prop :=
  (∃ (N : Nat) (g : Nat), q = N ∧ TabOk N xs ∧ allOk q xs es = true ∧ e = .returned (.tuple #[.pointer (some ⟨g, 0, none⟩), .bool true]) ∧ B ≤ g ∧ MonAt w' g N xs) ∨ (allOk q xs es = false ∧ e = .returned (.tuple #[.pointer none, .bool false]))
end Go.Proofs.YtlehdmflnglipaaDoor
