/- The program's group: how it lies; its making. -/
import Derived.Test.YtkiomohpmajjcaaGroupPlain
import Derived.Test.YtkiomohpmajjcaaImplTab
import Derived.Deep.RegionHeld3
namespace Go.Proofs.Ytkiomohpmajjcaa
open Go.RowKit

set_option maxRecDepth 100000 in
set_option maxHeartbeats 1600000 in
/-- monoidWith of no elements. -/
theorem monoidWith_none (q : Int) (A E : Option Addr) (n c d B : Nat) (xs : List Int) (w : World) (h : Own B w (.slice A n c) 1 n (ints xs)) :
    Calls Try.prog 60 #[tabV q A n c, .slice E 0 d] w fun e w' => WithPost q xs [] w.heap.size e w' ∧ Below w.heap.size w w' := by
  have HO := Lib.hid (h.below (bel1 w (.cells #[.int .i64 q, .slice A n c] 28)))
  clear h
  go_enter Try.func60, Try.ntmps60
  go_wp2_with fail
  refine (monoidFrom_any q A n c B xs _ HO.out).mono ?_
  rintro e w1 ⟨hm, hb1⟩
  have b1 := (bel1 w _).trans (hb1.mono (by simp))
  clear hb1 HO
  rcases hm with ⟨N, g2, hqN, hT, rfl, hg, hM⟩ | ⟨hT, rfl⟩
  · have hg' : w.heap.size ≤ g2 := by simp at hg; omega
    have HM := Lib.hid hM
    have HT := Lib.hid hT
    subst hqN
    clear hM hT hg
    go_wp2_with fail
    refine wp_loop_rounds 1 ?_
    rw [rounds_succ]
    have He := Lib.hid (show allOk N xs [] = true by unfold allOk; rw [tableOk_yes HT.out]; rfl)
    go_wp2_with fail
    go_ret2
    exact ⟨.inl ⟨N, g2, rfl, HT.out, He.out, rfl, hg', HM.out⟩, b1⟩
  · have He := Lib.hid (show allOk q xs [] = false by unfold allOk; rw [hT, Bool.false_and])
    clear hT
    go_wp2_with fail
    go_ret2
    exact ⟨.inr ⟨He.out, rfl⟩, b1⟩
theorem monoidWith_all (q : Int) (A E : Option Addr) (n c m d B D : Nat) (xs es : List Int) (w : World) (h : Own B w (.slice A n c) 1 n (ints xs)) (hE : Own D w (.slice E m d) 1 m (ints es)) :
    Calls Try.prog 60 #[tabV q A n c, .slice E m d] w fun e w' => WithPost q xs es w.heap.size e w' ∧ Below w.heap.size w w' := by
  by_cases hm : 0 < m
  · exact monoidWith_any q A E n c m d B D xs es w h hE hm
  · obtain rfl : m = 0 := by omega
    obtain rfl : es = [] := List.eq_nil_of_length_eq_zero hE.ilen
    exact monoidWith_none q A E n c d B xs w h
structure GrpAt (w : World) (h g n : Nat) (xs : List Int) : Prop where
  mon : MonAt w g n xs
  lt : h < w.heap.size
  ptr : w.cell? ⟨h, 0, none⟩ = some (.pointer (some ⟨g, 0, none⟩))
  inv : ∀ i, i < n → w.cell? ⟨h, 1 + i, none⟩ = some (.int .i64 (tinv n xs i : Nat))
theorem GrpAt.below {w w' : World} {h g n : Nat} {xs : List Int} (H : GrpAt w h g n xs) (hb : Below w.heap.size w w') : GrpAt w' h g n xs :=
  ⟨H.mon.below hb, by have := hb.size; have := H.lt; omega, (hb.cell (p := ⟨h, 0, none⟩) H.lt).trans H.ptr, fun i hi => (hb.cell (p := ⟨h, 1 + i, none⟩) H.lt).trans (H.inv i hi)⟩
def grpZ : Array Value := (Array.replicate 41 (Value.int .i64 0)).setIfInBounds 0 (.pointer none)
theorem grpZ_size : grpZ.size = 41 := by simp [grpZ]
theorem grpZ_ne : (grpZ = #[]) = False := by
  simp only [eq_iff_iff, iff_false]; intro h
  have := congrArg Array.size h; rw [grpZ_size] at this; simp at this
theorem zero_grp (w : World) : Sem.run Try.prog (zeroValue 50) w = .ok (.agg grpZ) w := by kernel_rfl
/-- The group at h while it is filled: the inverses below k. -/
def GrpTo (w : World) (h g n k : Nat) (xs : List Int) : Prop :=
  ∃ cs, Blk w h 50 cs ∧ cs.size = 41 ∧ cs[0]? = some (.pointer (some ⟨g, 0, none⟩)) ∧ ∀ i, i < k → i < n → cs[1 + i]? = some (.int .i64 (tinv n xs i : Nat))
theorem GrpTo.start (w : World) (g n : Nat) (xs : List Int) : GrpTo (w.alloc (.cells (grpZ.setIfInBounds 0 (.pointer (some ⟨g, 0, none⟩))) 50)) w.heap.size g n 0 xs :=
  ⟨_, Blk.new1 _ _ _, by simp [grpZ_size], by simp [grpZ_size], fun i h => by omega⟩
theorem GrpTo.below {w w' : World} {h g n k : Nat} {xs : List Int} (H : GrpTo w h g n k xs) (hb : Below w.heap.size w w') : GrpTo w' h g n k xs := by
  obtain ⟨cs, hB, r⟩ := H
  exact ⟨cs, hB.below hb hB.lt, r⟩
theorem GrpTo.lt {w : World} {h g n k : Nat} {xs : List Int} (H : GrpTo w h g n k xs) : h < w.heap.size := by obtain ⟨cs, hb, _⟩ := H; exact hb.lt
theorem GrpTo.ptr {w : World} {h g n k : Nat} {xs : List Int} (H : GrpTo w h g n k xs) : w.cell? ⟨h, 0, none⟩ = some (.pointer (some ⟨g, 0, none⟩)) := by obtain ⟨cs, hb, _, h0, _⟩ := H; exact (hb.cell 0).trans h0
theorem GrpTo.at_ {w : World} {h g n k : Nat} {xs : List Int} (H : GrpTo w h g n k xs) (hk : k < 40) : (∃ old, w.cell? ⟨h, 1 + k, none⟩ = some old) ∧ w.frozen? ⟨h, 1 + k, none⟩ = false := by
  obtain ⟨cs, hb, hs, h0, hr⟩ := H
  refine ⟨⟨cs[1 + k]'(by omega), ?_⟩, hb.frozen _⟩
  rw [hb.cell, Array.getElem?_eq_getElem]
theorem GrpTo.set_ {w : World} {h g n k : Nat} {xs : List Int} (H : GrpTo w h g n k xs) (hk : k < n) (hn : n ≤ 40) : GrpTo (w.setCell ⟨h, 1 + k, none⟩ (.int .i64 (tinv n xs k : Nat))) h g n (k + 1) xs := by
  obtain ⟨cs, hb, hs, h0, hr⟩ := H
  refine ⟨_, hb.set_ _ _, by simpa using hs, ?_, fun i hi hn' => ?_⟩
  · rw [Array.getElem?_setIfInBounds_ne (by omega)]; exact h0
  · by_cases e : i = k
    · subst e; rw [Array.getElem?_setIfInBounds_self_of_lt (by omega)]
    · rw [Array.getElem?_setIfInBounds_ne (by omega)]; exact hr i (by omega) hn'
theorem GrpTo.done {w : World} {h g n : Nat} {xs : List Int} (H : GrpTo w h g n n xs) (hM : MonAt w g n xs) : GrpAt w h g n xs := by
  have hl := H.lt
  have hp := H.ptr
  obtain ⟨cs, hb, _, h0, hr⟩ := H
  exact ⟨hM, hl, hp, fun i hi => (hb.cell _).trans (hr i hi hi)⟩
theorem run_rowAt (g off N : Nat) (h40 : N ≤ 40) (w : World) : Sem.run Try.prog (Instr.sliceAt 48 (.pointer (some ⟨g, off, none⟩)) none (some (.int .i64 (N : Int))) none) w = .ok (.slice (some ⟨g, off, none⟩) N 40) w := by
  have hL : Try.prog.arrayLen 48 = 40 := by kernel_rfl
  have hs : ∀ w, Sem.run Try.prog (sizeOf (Try.prog.elem 48)) w = .ok 1 w := fun w => by kernel_rfl
  rw [run_sliceAt_array_h w 48 ⟨g, off, none⟩ (by kernel_rfl) .i64 (N : Int) (by omega) (by rw [hL]; omega), hs, hL]
  simp [slicedAt, Addr.add]
set_option maxRecDepth 100000 in
set_option maxHeartbeats 800000 in
/-- The first 0 in the row of i: its inverse. -/
theorem indexRow_any (g N i : Nat) (xs : List Int) (w : World) (h : MonAt w g N xs) (hT : TabOk N xs) (hu : ∃ k, k < N ∧ tmul N xs i k = 0 ∧ tmul N xs k i = 0) (hi : i < N) :
    Calls Try.prog 62 #[.slice (some ⟨g, 1 + i * 40, none⟩) N 40, .int .i64 0] w fun e w' => e = .returned (.int .i64 (tinv N xs i : Nat)) ∧ Below w.heap.size w w' := by
  have h40 := hT.hi
  have HU := Lib.hid (fun k => hT.inv_of (k := k) hu hi)
  have HC := Lib.hid (fun k (hk : k < N) => h.num hT.rng hi hk)
  clear h
  go_enter Try.func62, Try.ntmps62
  go_wp2_with fail
  go_loop [8] (fun i' => ∃ k : Nat, i' = .int .i64 k ∧ k ≤ N ∧ Hid (∀ j, j < k → tmul N xs i j ≠ 0)) (fun i' => N - (intOf i').toNat)
  case atStart => exact ⟨0, rfl, Nat.zero_le _, fun j hj => absurd hj (by omega)⟩
  case round =>
    obtain ⟨k, rfl, hk, HI⟩ := hrel
    by_cases hlt : k < N
    · have hx := HC.out k hlt
      by_cases e : tmul N xs i k = 0
      · have He := Lib.hid (HU.out k hlt e)
        rw [e] at hx
        clear e
        go_wp2_with fail
        go_ret
        exact ⟨ret_i64 (by rw [← He.out]), Below.refl _ _⟩
      · have HI1 : Hid (∀ j, j < k + 1 → tmul N xs i j ≠ 0) := fun j hj => by
          by_cases e3 : j = k
          · subst e3; exact e
          · exact HI.out j (by omega)
        generalize tmul N xs i k = U at *
        have e1 : ((0 : Int) == (U : Int)) = false := by simp; omega
        have e2 : ((U : Int) == (0 : Int)) = false := by simp; omega
        clear e
        go_wp2_with fail
        go_round
        case rel => exact ⟨k + 1, by go_num, by omega, HI1⟩
        case measure => simp [intOf]; omega
    · obtain ⟨a, ha, h1, -⟩ := hu
      exact absurd h1 (HI.out a (by omega))
def gallOk (q : Int) (xs es : List Int) : Prop := isGroupB q xs = true ∧ allOk q xs es = true
def GWPost (q : Int) (xs es : List Int) (e : Ending) (w' : World) : Prop :=
  (∃ N h g : Nat, q = N ∧ Grp N xs ∧ allOk q xs es = true ∧ e = .returned (.tuple #[.pointer (some ⟨h, 0, none⟩), .bool true]) ∧ GrpAt w' h g N xs) ∨ (¬ gallOk q xs es ∧ e = .returned (.tuple #[.pointer none, .bool false]))
set_option maxRecDepth 100000 in
set_option maxHeartbeats 1600000 in
theorem groupWith_any (q : Int) (A E : Option Addr) (n c m d B D : Nat) (xs es : List Int) (w : World) (h : Own B w (.slice A n c) 1 n (ints xs)) (hE : Own D w (.slice E m d) 1 m (ints es)) :
    Calls Try.prog 42 #[tabV q A n c, .slice E m d] w fun e w' => GWPost q xs es e w' ∧ Below w.heap.size w w' := by
  have hbuild := zero_grp
  have hne := grpZ_ne
  have HO := Lib.hid (h.below (bel1 w (.cells #[.int .i64 q, .slice A n c] 28)))
  have HE := Lib.hid (hE.below (bel1 w (.cells #[.int .i64 q, .slice A n c] 28)))
  clear h hE
  go_enter Try.func42, Try.ntmps42
  go_wp2_with fail
  refine (monoidWith_all q A E n c m d B D xs es _ HO.out HE.out).mono ?_
  rintro e w1 ⟨hm, hb1⟩
  have b1 := (bel1 w _).trans (hb1.mono (by simp))
  clear hb1 HO HE
  rcases hm with ⟨N, g, hqN, hT, ha, rfl, hg, hM⟩ | ⟨ha, rfl⟩
  · have HM := Lib.hid hM
    have HT := Lib.hid hT
    have Ha := Lib.hid ha
    subst hqN
    have h40 := hT.hi
    have x1 := hM.size
    have hgl := hM.lt
    clear hM hT ha hg
    go_wp2_with fail
    have M0 := Lib.hid (GrpTo.start w1 g N xs)
    have bn := bel1 w1 (.cells (grpZ.setIfInBounds 0 (.pointer (some ⟨g, 0, none⟩))) 50)
    have hw1 := b1.size
    clear hbuild hne x1
    generalize w1.alloc (.cells (grpZ.setIfInBounds 0 (.pointer (some ⟨g, 0, none⟩))) 50) = wn at *
    go_loopw [25] (fun i' wr => ∃ k : Nat, i' = .int .i64 k ∧ k ≤ N ∧ Hid (GrpTo wr w1.heap.size g N k xs) ∧ Hid (∀ i, i < k → ∃ a, a < N ∧ tmul N xs i a = 0 ∧ tmul N xs a i = 0) ∧ Below w1.heap.size w1 wr) (fun i' _ => N - (intOf i').toNat)
    case atStart => exact ⟨0, rfl, Nat.zero_le _, M0, fun i hi => absurd hi (by omega), bn⟩
    case round =>
      obtain ⟨k, rfl, hk, HG, HU, hb⟩ := hrel
      have hbs := hb.size
      by_cases hlt : k < N
      · go_wp2_with fail
        refine (isUnit_any g N k xs _ (HM.out.below hb) h40 HT.out.rng hlt).mono ?_
        cases hu : unitB N xs k
        · have He := Lib.hid (show ¬ gallOk N xs es from fun h => by
            obtain ⟨M, e, hG⟩ := isGroup_iff h.1
            obtain rfl : N = M := by omega
            exact not_cdec hu (hG.inv k hlt))
          clear hu
          rintro e w2 ⟨rfl, m, rfl⟩
          go_wp2_with fail
          go_ret2
          exact ⟨.inr ⟨He.out, rfl⟩, b1.trans ((below_drewN hb m).mono hw1)⟩
        · have Hu := Lib.hid (of_cdec hu)
          clear hu
          rintro e w2 ⟨rfl, m, rfl⟩
          have HU1 : Hid (∀ i, i < k + 1 → ∃ a, a < N ∧ tmul N xs i a = 0 ∧ tmul N xs a i = 0) := fun i hi => by
            by_cases e : i = k
            · subst e; exact Hu.out
            · exact HU.out i (by omega)
          have hb2 := below_drewN hb m
          have HG2 : Hid (GrpTo (wr.drewN m) w1.heap.size g N k xs) := HG.out.below (below_drewN (Below.refl _ _) m)
          clear hb HG
          generalize wr.drewN m = w2 at *
          have hb2s := hb2.size
          have hgw : w1.heap.size < w2.heap.size := HG2.out.lt
          have HS := Lib.hid (fun (w' : World) (hS : Below w2.heap.size w2 w') => HM.out.below (hb2.trans (hS.mono hb2s)))
          have HN := Lib.hid (fun (w' : World) (hS : Below w2.heap.size w2 w') => (HS.out w' hS).size)
          have HP := Lib.hid (fun (w' : World) (hS : Below w2.heap.size w2 w') => (HG2.out.below hS).at_ (show k < 40 by omega))
          have HX := Lib.hid (fun (w' : World) (hS : Below w2.heap.size w2 w') => (⟨(HG2.out.below hS).set_ hlt h40, (hb2.trans (hS.mono hb2s)).setCell (p := ⟨w1.heap.size, 1 + k, none⟩) (Nat.le_refl _) (.int .i64 (tinv N xs k : Nat))⟩ : _ ∧ Below w1.heap.size w1 (w'.setCell ⟨w1.heap.size, 1 + k, none⟩ (.int .i64 (tinv N xs k : Nat)))))
          have hD0 : Below w2.heap.size w2 w2.drew := (Below.refl _ w2).drew
          have x1 := HN.out _ hD0
          obtain ⟨⟨old, x2⟩, x3⟩ := HP.out _ hD0
          have hrow := fun off w => run_rowAt g off N h40 w
          clear HG2
          go_wp2_with fail
          go_region_with ((go_at_call 62; refine (indexRow_any g N k xs _ (HS.out _ (by assumption)) HT.out Hu.out hlt).mono ?_; rintro e w9 ⟨rfl, hb9⟩; have hB9 := Below.trans (by assumption : Below w2.heap.size w2 _) (hb9.mono (Below.size (by assumption))); have x4 := HN.out _ hB9; obtain ⟨⟨old2, x5⟩, x6⟩ := HP.out _ hB9))
          all_goals (go_wp2_with fail; go_roundw; (case rel => exact ⟨k + 1, by go_num, by omega, (HX.out _ hB9).1, HU1, (HX.out _ hB9).2⟩); (case measure => simp [intOf]; omega))
      · obtain rfl : N = k := by omega
        have HGr : Hid (Grp N xs) := ⟨HT.out, fun i hi => HU.out i hi⟩
        have HD := Lib.hid (HG.out.done (HM.out.below hb))
        go_wp2_with fail
        go_ret2
        exact ⟨.inl ⟨N, w1.heap.size, g, rfl, HGr.out, Ha.out, rfl, HD.out⟩, b1.trans (hb.mono hw1)⟩
  · have He := Lib.hid (show ¬ gallOk q xs es from fun h => by rw [h.2] at ha; cases ha)
    clear ha hbuild hne
    go_wp2_with fail
    go_ret2
    exact ⟨.inr ⟨He.out, rfl⟩, b1⟩
end Go.Proofs.Ytkiomohpmajjcaa
