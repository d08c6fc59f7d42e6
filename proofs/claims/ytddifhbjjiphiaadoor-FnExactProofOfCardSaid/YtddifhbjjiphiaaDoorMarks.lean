/- The laws' own helpers on slices of strings: markText, markStringS, heldStringS, eqStringS. -/
import Derived.Test.YtddifhbjjiphiaaDoorStrs
import Derived.Test.YtddifhbjjiphiaaDoorOneByte
import Derived.Deep.QuietTactic
import Derived.BigQuiet
import Derived.IntWalk
import Derived.Deep.RegionHeld3
import Derived.Lib.ItoaLen
namespace Go.Proofs.YtddifhbjjiphiaaDoor
open Go.RowKit

/-- The digits of n, none for 0. -/
def dec0 (n : Nat) : List UInt8 := if n = 0 then [] else Lib.decDigits n
theorem dec0_step {n : Nat} (h : n ≠ 0) : dec0 n = dec0 (n / 10) ++ [UInt8.ofNat (48 + n % 10)] := by
  unfold dec0
  rw [if_neg h]
  by_cases h10 : n < 10
  · rw [if_pos (by omega), Lib.decDigits_one h10, show n % 10 = n from by omega]; rfl
  · rw [if_neg (by omega), Lib.decDigits, dif_neg h10]
def markT (k : Int) : ByteArray := if k ≤ 0 then ⟨#[109, 48]⟩ else ⟨(109 :: dec0 k.toNat).toArray⟩

theorem dec0_le (n : Nat) (h : n ≤ 4611686018427387904) : (dec0 n).length ≤ 20 := by
  unfold dec0
  split
  · simp
  · rw [Lib.decDigits_length]; exact Lib.nDigits_le20 n (by omega)

set_option maxRecDepth 100000 in
set_option maxHeartbeats 400000 in
theorem markText_any (k : Int) (w : World) (hk : k ≤ 4611686018427387904) :
    Calls Tryd.prog 48 #[.int .i64 k] w fun e w' => e = .returned (.string (markT k)) ∧ Below w.heap.size w w' := by
  by_cases h0 : k ≤ 0
  · have hm : (⟨#[109, 48]⟩ : ByteArray) = markT k := by unfold markT; rw [if_pos h0]
    have Hm := Lib.hid hm
    clear hm
    go_enter Tryd.func48, Tryd.ntmps48
    go_wp2
    go_ret
    exact ⟨ret_str Hm.out, Below.refl _ _⟩
  · go_enter Tryd.func48, Tryd.ntmps48
    go_wp2
    obtain ⟨n, rfl⟩ : ∃ n : Nat, k = n := ⟨k.toNat, by omega⟩
    go_loopw [0, 3] (fun q o wr => ∃ (m : Nat) (out : List UInt8), q = .int .i64 m ∧ m ≤ n ∧ o = .string ⟨out.toArray⟩ ∧ Hid (dec0 m ++ out = dec0 n) ∧ out.length ≤ 20 ∧ Below w.heap.size w wr) (fun q _ _ => (intOf q).toNat)
    case atStart => exact ⟨n, [], rfl, Nat.le_refl _, rfl, List.append_nil _, by simp, Below.refl _ _⟩
    case round =>
      obtain ⟨m, out, rfl, hm, rfl, HD, ho, hb⟩ := hrel
      by_cases hpos : 0 < m
      · have hcv := one_byte (P := Tryd.prog) Tryd.underlying97 Tryd.underlying5 Tryd.underlying9 wr (48 + (m : Int) % 10) (by omega) (by omega)
        go_wp2
        go_roundw
        case rel =>
          refine ⟨m / 10, UInt8.ofNat (48 + m % 10) :: out, by go_num, by omega, ?_, ?_, ?_, hb.alloc hb.size _⟩
          · congr 1
            rw [show UInt8.ofNat (48 + m % 10) = 48 + UInt8.ofNat (m % 10) by rw [UInt8.ofNat_add]; rfl]
            apply ByteArray.ext; simp
          · show dec0 (m / 10) ++ (UInt8.ofNat (48 + m % 10) :: out) = dec0 n
            rw [← HD.out, dec0_step (n := m) (by omega)]; simp
          · have h1 := congrArg List.length HD.out
            rw [dec0_step (n := m) (by omega)] at h1
            have h2 := dec0_le n (by omega)
            simp only [List.length_append, List.length_cons, List.length_nil] at h1 ⊢
            omega
        case measure => simp [intOf]; omega
      · obtain rfl : m = 0 := by omega
        have hf : (⟨#[109]⟩ ++ ⟨out.toArray⟩ : ByteArray) = markT n := by
          have h1 := HD.out
          unfold markT
          rw [if_neg (by omega), Int.toNat_natCast, ← h1]
          apply ByteArray.ext; simp [dec0]
        have Hf := Lib.hid hf
        clear hf
        go_wp2
        go_ret
        exact ⟨ret_str Hf.out, hb⟩

/-- markText k, markText (k + 1), .. -/
def marks (k : Int) (n : Nat) : List ByteArray := (List.range n).map fun j : Nat => markT (k + j)
theorem marks_length (k : Int) (n : Nat) : (marks k n).length = n := by simp [marks]
theorem marks_get (k : Int) (n j : Nat) (h : j < n) : (strs (marks k n))[j]? = some (.string (markT (k + j))) := by simp [strs, marks, h]

set_option maxHeartbeats 400000 in
theorem eqStringS_yes (A A' : Option Addr) (n c c' B B' : Nat) (l : List ByteArray) (w : World) (h : Own B w (.slice A n c) 1 n (strs l)) (h' : Own B' w (.slice A' n c') 1 n (strs l)) (hn : n ≤ 4611686018427387904) :
    Calls Tryd.prog 19 #[.slice A n c, .slice A' n c'] w fun e w' => e = .returned (.bool true) ∧ ∃ m, w' = w.drewN m := by
  by_cases h0 : 0 < n
  · obtain ⟨g, off, rfl, -, -, hc⟩ := h.str h0
    obtain ⟨g', off', rfl, -, -, hc'⟩ := h'.str h0
    have HC := Lib.hid hc
    have HC' := Lib.hid hc'
    clear hc hc'
    go_enter Tryd.func19, Tryd.ntmps19
    go_wp2
    go_loopw [5] (fun i wr => ∃ k m : Nat, k ≤ n ∧ i = .int .i64 k ∧ wr = w.drewN m) (fun i _ => n - (intOf i).toNat)
    case atStart => exact ⟨0, 0, Nat.zero_le _, rfl, rfl⟩
    case round =>
      obtain ⟨k, m, hk, rfl, rfl⟩ := hrel
      by_cases hlt : k < n
      · obtain ⟨s, hs, hx, -⟩ := HC.out k hlt
        obtain ⟨s', hs', hx', -⟩ := HC'.out k hlt
        obtain rfl : s' = s := by rw [hs] at hs'; exact (Option.some.inj hs').symm
        clear hs hs'
        go_wp2
        go_quiet (fail)
        all_goals go_wp2
        go_roundw
        case rel => exact ⟨k + 1, _, by omega, by go_num, rfl⟩
        case measure => simp [intOf]; omega
      · go_wp2
        go_ret
        exact ⟨rfl, m, rfl⟩
  · obtain rfl : n = 0 := by omega
    go_enter Tryd.func19, Tryd.ntmps19
    go_wp2
    refine wp_loop_rounds 1 ?_
    rw [rounds_succ]
    go_wp2
    go_ret
    exact ⟨rfl, 0, rfl⟩

theorem marks_step (k : Int) (i : Nat) (l : List ByteArray) (hi : i < l.length) : (strs (marks k i ++ l.drop i)).set i (.string (markT (k + i))) = strs (marks k (i + 1) ++ l.drop (i + 1)) := by
  have h1 : l.drop i = l[i] :: l.drop (i + 1) := by rw [List.drop_eq_getElem_cons hi]
  rw [h1]
  have hm : marks k (i + 1) = marks k i ++ [markT (k + i)] := by simp [marks, List.range_succ]
  rw [hm]
  simp only [strs, List.map_append, List.map_cons]
  rw [List.set_append_right _ _ (by simp [marks_length])]
  simp [marks_length]

set_option maxHeartbeats 400000 in
theorem markStringS_any (A : Option Addr) (n c B : Nat) (k : Int) (l : List ByteArray) (w : World) (h : Own B w (.slice A n c) 1 n (strs l)) (hB : B ≤ w.heap.size) (h0 : 0 ≤ k) (hk : k + n ≤ 4611686018427387904) :
    Calls Tryd.prog 23 #[.slice A n c, .int .i64 k] w fun e w' => e = .returned (.int .i64 (k + n)) ∧ Own B w' (.slice A n c) 1 n (strs (marks k n)) ∧ Below B w w' := by
  have hl : l.length = n := by have := h.1; simpa [strs] using this
  have hmax : n ≤ c ∧ c ≤ maxLen := by
    obtain ⟨_, A', c', hv, hc, hm, _⟩ := h
    injection hv with _ _ e; subst e; exact ⟨hc, hm⟩
  by_cases hn : 0 < n
  · obtain ⟨g, off, rfl, hg, -, -⟩ := h.str hn
    have Hl := Lib.hid hl
    clear hl
    go_enter Tryd.func23, Tryd.ntmps23
    go_wp2
    go_loopw [1, 5] (fun q i wr => ∃ j : Nat, j ≤ n ∧ q = .int .i64 (k + j) ∧ i = .int .i64 j ∧ Hid (Own B wr (.slice (some ⟨g, off, none⟩) n c) 1 n (strs (marks k j ++ l.drop j))) ∧ Below B w wr) (fun _ i _ => n - (intOf i).toNat)
    case atStart => exact ⟨0, Nat.zero_le _, by simp, rfl, by simpa [marks, Hid] using h, Below.refl _ _⟩
    case round =>
      obtain ⟨j, hj, rfl, rfl, ho, hb⟩ := hrel
      have hbs := hb.size
      by_cases hlt : j < n
      · go_wp2_with (go_at_call 48; refine (markText_any _ _ (by omega)).mono ?_)
        rintro e w1 ⟨rfl, hb1⟩
        have ho1 := ho.out.below hb1
        obtain ⟨g', off', e, -, hlt1, hcell⟩ := Own.str (l := marks k j ++ l.drop j) ho1 hn
        obtain ⟨rfl, rfl⟩ : g = g' ∧ off = off' := by injection e with e; injection e with e1 e2; exact ⟨e1, e2⟩
        clear e
        obtain ⟨s, -, hx, hf⟩ := hcell j hlt
        have ho2 := Own.set ho1 (j := j) (by rw [strs_length]; simp [marks_length, Hl.out]; omega) (.string (markT (k + j)))
        rw [marks_step k j l (by rw [Hl.out]; exact hlt)] at ho2
        have HO2 := Lib.hid ho2
        clear ho2 ho1 hcell
        go_wp2
        go_roundw
        case rel => exact ⟨j + 1, by omega, by go_num, by go_num, HO2, (hb.trans (hb1.mono (by omega))).setCell hg _⟩
        case measure => simp [intOf]; omega
      · obtain rfl : j = n := by omega
        have ho1 := ho.out
        rw [List.drop_of_length_le (by rw [Hl.out]; exact Nat.le_refl _), List.append_nil] at ho1
        go_wp2_with fail
        go_ret
        exact ⟨rfl, ho1, hb⟩
  · obtain rfl : n = 0 := by omega
    go_enter Tryd.func23, Tryd.ntmps23
    go_wp2
    refine wp_loop_rounds 1 ?_
    rw [rounds_succ]
    go_wp2
    go_ret
    obtain rfl : l = [] := List.eq_nil_of_length_eq_zero hl
    exact ⟨by simp, h, Below.refl _ _⟩

theorem held_keep {B : Nat} {w W W1 : World} {a : Addr} {v : Value} (h : W.cell? a = some v ∧ Below B w W) (hb : Below W.heap.size W W1) (hB : B ≤ w.heap.size) (ha : a.block < w.heap.size) : W1.cell? a = some v ∧ Below B w W1 :=
  have hs := h.2.size
  ⟨(hb.cell (by omega)).trans h.1, h.2.trans (hb.mono (by omega))⟩

set_option maxHeartbeats 400000 in
theorem heldStringS_yes (A : Option Addr) (n c B : Nat) (k : Int) (w : World) (h : Own B w (.slice A n c) 1 n (strs (marks k n))) (h0 : 0 ≤ k) (hk : k + n ≤ 4611686018427387904) :
    Calls Tryd.prog 24 #[.slice A n c, .int .i64 k] w fun e w' => e = .returned (.int .i64 (k + n)) ∧ Below w.heap.size w w' := by
  have hmax : n ≤ c ∧ c ≤ maxLen := by
    obtain ⟨_, A', c', hv, hc, hm, _⟩ := h
    injection hv with _ _ e; subst e; exact ⟨hc, hm⟩
  by_cases hn : 0 < n
  · obtain ⟨g, off, rfl, -, hg, hcell⟩ := h.str hn
    have HC := Lib.hid hcell
    clear hcell
    go_enter Tryd.func24, Tryd.ntmps24
    go_wp2
    go_loopw [1, 5] (fun q i wr => ∃ j : Nat, j ≤ n ∧ q = .int .i64 (k + j) ∧ i = .int .i64 j ∧ Below w.heap.size w wr) (fun _ i _ => n - (intOf i).toNat)
    case atStart => exact ⟨0, Nat.zero_le _, by simp, rfl, Below.refl _ _⟩
    case round =>
      obtain ⟨j, hj, rfl, rfl, hb⟩ := hrel
      have hbs := hb.size
      by_cases hlt : j < n
      · obtain ⟨s, hs, hx0, -⟩ := HC.out j hlt
        have hs' := marks_get k n j hlt
        simp only [strs, List.getElem?_map, hs, Option.map_some, Option.some.injEq, Value.string.injEq] at hs'
        subst hs'
        have hx : wr.cell? ⟨g, off + j, none⟩ = some (.string (markT (k + j))) := (hb.cell (by simpa using hg)).trans hx0
        clear hs hx0
        go_wp2
        go_region_held3 (fun w' => w'.cell? ⟨g, off + j, none⟩ = some (.string (markT (k + j))) ∧ Below w.heap.size w w')
          (first | exact ⟨by simpa using hx, hb.drew⟩ | exact held_keep (by assumption) hb1 (Nat.le_refl _) hg)
          ((go_at_call 48; refine (markText_any _ _ (by omega)).mono ?_; rintro e w1 ⟨rfl, hb1⟩))
        all_goals go_wp2
        have hS := ‹_ ∧ Below w.heap.size w w1›
        go_roundw
        case rel => exact ⟨j + 1, by omega, by go_num, by go_num, hS.2⟩
        case measure => simp [intOf]; omega
      · obtain rfl : j = n := by omega
        go_wp2_with fail
        go_ret
        exact ⟨rfl, hb⟩
  · obtain rfl : n = 0 := by omega
    go_enter Tryd.func24, Tryd.ntmps24
    go_wp2
    refine wp_loop_rounds 1 ?_
    rw [rounds_succ]
    go_wp2
    go_ret
    exact ⟨by simp, Below.refl _ _⟩
end Go.Proofs.YtddifhbjjiphiaaDoor
