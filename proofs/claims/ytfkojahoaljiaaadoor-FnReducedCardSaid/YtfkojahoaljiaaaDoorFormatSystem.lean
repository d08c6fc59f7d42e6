/- FormatSystem: the program's and the model's. -/
import Derived.Test.YtfkojahoaljiaaaDoorRulesOk
import Derived.Test.YtfkojahoaljiaaaDoorFormatRule
import Derived.Test.YtfkojahoaljiaaaDoorJoinSplit
import Derived.Test.YtfkojahoaljiaaaDoorFmt
import Derived.Test.YtfkojahoaljiaaaDoorDoor
namespace Go.Proofs.YtfkojahoaljiaaaDoor
open Go.RowKit Go.Joins

/-- The parts of a system's text. -/
def sysParts (k : Int) (l : List R) : List ByteArray := itoaS k :: l.map ruleT
def sysT (k : Int) (l : List R) : ByteArray := joinS (sysParts k l) blank
def sysAns (k : Int) (l : List R) : ByteArray := if rulesOk k l then sysT k l else ⟨#[]⟩
theorem sysT_nil (k : Int) : sysT k [] = itoaS k := by
  unfold sysT sysParts joinS
  apply ByteArray.ext; simp [Lib.join_one]
theorem sysT_step (k : Int) (l : List R) (j : Nat) (r : R) (h : l[j]? = some r) : sysT k (l.take (j + 1)) = sysT k (l.take j) ++ blank ++ ruleT r := by
  have hk := (List.getElem?_eq_some_iff.1 h).1
  have he := (List.getElem?_eq_some_iff.1 h).2
  have e : (itoaS k :: (l.take j ++ [r]).map ruleT).map (fun x : ByteArray => x.data.toList) = (itoaS k :: (l.take j).map ruleT).map (fun x : ByteArray => x.data.toList) ++ [(ruleT r).data.toList] := by simp
  unfold sysT sysParts joinS
  rw [List.take_succ_eq_append_getElem hk, he, e, join_snoc, if_neg (by simp)]
  apply ByteArray.ext; simp
theorem ruleOk_size {k : Int} {r : R} (h : ruleOk k r = true) : r.1.size ≤ 8 ∧ r.2.size ≤ 8 := by
  simp only [ruleOk, sidesOk, Bool.and_eq_true, decide_eq_true_eq] at h
  exact ⟨h.1.1.2, h.1.2⟩
theorem ruleT_size (r : R) : (ruleT r).size ≤ r.1.size + r.2.size + 3 := by
  unfold ruleT
  simp only [ByteArray.size_append]
  have h1 := sideT_size r.1
  have h2 := sideT_size r.2
  have h3 : (⟨#[62]⟩ : ByteArray).size = 1 := rfl
  omega
theorem rulesOk_memF {k : Int} {l : List R} (h : rulesOk k l = true) : inK k = true ∧ l.length ≤ 12 ∧ ∀ r ∈ l, ruleOk k r = true := by
  simp only [rulesOk, Bool.and_eq_true, decide_eq_true_eq, List.all_eq_true] at h
  exact ⟨h.1.1, h.1.2, h.2⟩
theorem inK_bounds {k : Int} (h : inK k = true) : 1 ≤ k ∧ k ≤ 4 := by simpa [inK] using h
theorem sysT_size (k : Int) (l : List R) (hk : 1 ≤ k ∧ k ≤ 4) (hl : ∀ r ∈ l, ruleOk k r = true) : ∀ j, j ≤ l.length → (sysT k (l.take j)).size ≤ 21 + 20 * j
  | 0, _ => by
    rw [List.take_zero, sysT_nil]
    have := itoaS_size k (by omega) (by omega)
    omega
  | j + 1, h => by
    obtain ⟨r, hr⟩ : ∃ r, l[j]? = some r := ⟨l[j]'(by omega), List.getElem?_eq_getElem (by omega)⟩
    have h1 := sysT_size k l hk hl j (by omega)
    rw [sysT_step k l j _ hr]
    have h2 := ruleT_size r
    have h3 := ruleOk_size (hl _ (List.mem_of_getElem? hr))
    have h4 : blank.size = 1 := rfl
    simp only [ByteArray.size_append]
    omega

set_option maxRecDepth 100000 in
set_option maxHeartbeats 1600000 in
theorem specFormatSystem (k : Int) (A : Option Addr) (n c B : Nat) (l : List R) (w : World) (h : Own B w (.slice A n c) 2 n (rulesC l)) (hsm : smallR l) :
    Calls Tryd.prog 53 #[.agg #[.int .i64 k, .slice A n c]] w fun e w' => e = .returned (.string (sysAns k l)) ∧ Below w.heap.size w w' := by
  have hmax := h.bound
  have hlen := h.rlen
  unfold maxLen at hmax
  have HO := Lib.hid h
  have Hlen := Lib.hid hlen
  clear h hlen
  go_enter Tryd.func53, Tryd.ntmps53
  go_wp2_with fail
  refine (specRulesOk k _ _ _ B l _ (HO.out.below (bel1 _ _)) hsm).mono ?_
  rintro e w1 ⟨rfl, hb1⟩
  have HB1 := Lib.hid ((Blk.new1 w _ _).below hb1 (by simp))
  have b1 := (bel1 w _).trans (hb1.mono (by simp))
  clear hb1
  obtain ⟨q0, q1, -, -, ql⟩ := HB1.out.two
  cases h1 : rulesOk k l
  · have He := Lib.hid (show (⟨#[]⟩ : ByteArray) = sysAns k l by simp [sysAns, h1])
    clear h1
    go_wp2_with fail
    go_ret
    exact ⟨ret_str He.out, b1⟩
  obtain ⟨hik, hl12, hall⟩ := rulesOk_memF h1
  have hkb := inK_bounds hik
  have Hsz := Lib.hid (sysT_size k l hkb hall)
  have Hall := Lib.hid hall
  have He := Lib.hid (show sysT k l = sysAns k l by simp [sysAns, h1])
  have Hk := Lib.hid hkb
  clear h1 hik hall hkb
  go_wp2_with fail
  refine (specFormatInt k _ (by have := Hk.out; omega) (by have := Hk.out; omega)).mono ?_
  rintro e w2 ⟨rfl, hb2⟩
  have HB2 := Lib.hid (HB1.out.below hb2 ql)
  have b2 := b1.trans (hb2.mono b1.size)
  clear hb2 q0 q1 ql
  obtain ⟨q0, q1, -, -, ql⟩ := HB2.out.two
  have hs0 := sysT_nil k
  rw [← hs0]
  clear hs0
  go_wp2_with fail
  go_loopw [3, 15] (fun o i wr => ∃ (j : Nat) (t : ByteArray), j ≤ n ∧ i = .int .i64 j ∧ o = .string t ∧ t.size ≤ 500 ∧ Hid (sysT k (l.take j) = t) ∧ Below w.heap.size w wr) (fun _ i _ => n - (intOf i).toNat)
  case atStart => exact ⟨0, sysT k [], Nat.zero_le _, rfl, rfl, by have := Hsz.out 0 (Nat.zero_le _); simpa using Nat.le_trans this (by omega), rfl, b2⟩
  case round =>
    obtain ⟨j, t, hj, rfl, rfl, ht, HX, hb⟩ := hrel
    have hbs := hb.size
    by_cases hlt : j < n
    · obtain ⟨g, off, c0, hv⟩ := HO.out.formR (by omega)
      obtain ⟨rfl, rfl⟩ : A = some ⟨g, off, none⟩ ∧ c = c0 := by injection hv with a _ b; exact ⟨a, b⟩
      clear hv
      obtain ⟨-, hgl, ⟨u, v⟩, hr, x0, x1, -, -⟩ := (HO.out.below hb).rule hlt
      have Hr := Lib.hid hr
      have hsz := ruleOk_size (Hall.out _ (List.mem_of_getElem? hr))
      have Hu : Hid (u.size ≤ 1048576) := by have := hsz.1; show _ ≤ _; dsimp only at this; omega
      have Hv : Hid (v.size ≤ 1048576) := by have := hsz.2; show _ ≤ _; dsimp only at this; omega
      have hT := ruleT_size (u, v)
      have HX2 := Lib.hid ((sysT_step k l j _ Hr.out).trans (by rw [HX.out]))
      have hb500 : (t ++ blank ++ ruleT (u, v)).size ≤ 500 := by
        rw [← HX2.out]
        have := Hsz.out (j + 1) (by rw [Hlen.out]; omega)
        have := Hlen.out
        omega
      have kb : blank.size = 1 := rfl
      have hT2 : (ruleT (u, v)).size ≤ 500 := by simp only [ByteArray.size_append] at hb500; omega
      have HF := Lib.hid (fun W => specFormatRule u v W Hu.out Hv.out)
      generalize ruleT (u, v) = T at *
      have k1 := fun W => run_string_add_sum (P := Tryd.prog) W t ⟨#[32]⟩ (by have : (⟨#[32]⟩ : ByteArray).size = 1 := rfl; rw [this]; omega)
      have k2 := fun W => run_string_add_sum (P := Tryd.prog) W (t ++ ⟨#[32]⟩) T (by have : (⟨#[32]⟩ : ByteArray).size = 1 := rfl; rw [ByteArray.size_append, this]; omega)
      clear hr hsz hT hT2 kb Hu Hv
      go_wp2_with fail
      refine (HF.out _).mono ?_
      rintro e w3 ⟨rfl, hb3⟩
      have b3 := (hb.alloc hbs _).trans (hb3.mono (by simp; omega))
      clear hb3 x0 x1
      go_wp2_with fail
      go_roundw
      case rel => exact ⟨j + 1, t ++ blank ++ T, by omega, by go_num, rfl, hb500, HX2, b3⟩
      case measure => simp [intOf]; omega
    · have Hend := Lib.hid (show t = sysAns k l by
        rw [← He.out, ← HX.out, List.take_of_length_le (by rw [Hlen.out]; omega)])
      go_wp2_with fail
      go_ret
      exact ⟨ret_str Hend.out, hb⟩

theorem parts_step (k : Int) (l : List R) (j : Nat) (r : R) (h : l[j]? = some r) : strs (sysParts k (l.take j)) ++ [Value.string (ruleT r)] = strs (sysParts k (l.take (j + 1))) := by
  have hk := (List.getElem?_eq_some_iff.1 h).1
  have he := (List.getElem?_eq_some_iff.1 h).2
  rw [List.take_succ_eq_append_getElem hk, he]; simp [sysParts, strs]
theorem total_parts (k : Int) (hk : 1 ≤ k ∧ k ≤ 4) : ∀ (l : List R), (∀ r ∈ l, ruleOk k r = true) → total (sysParts k l) ≤ 21 + 20 * l.length
  | [], _ => by
    have := itoaS_size k (by omega) (by omega)
    simp [total, sysParts]; omega
  | r :: l, h => by
    have ih := total_parts k hk l (fun x hx => h x (List.mem_cons_of_mem _ hx))
    have h2 := ruleT_size r
    have h3 := ruleOk_size (h r (List.mem_cons_self ..))
    simp only [total, sysParts, List.map_cons, List.sum_cons, List.length_cons] at ih ⊢
    omega

end Go.Proofs.YtfkojahoaljiaaaDoor
