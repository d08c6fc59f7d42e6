/- SidesOk, RulesOk, SystemOk: the program's and the model's. -/
import Derived.Test.YtddifhbjjiphiaaDoorRules
import Derived.Test.YtddifhbjjiphiaaDoorLetters
import Derived.Test.YtddifhbjjiphiaaDoorLess
namespace Go.Proofs.YtddifhbjjiphiaaDoor
open Go.RowKit

/-- Are both sides words with k letters, of at most 8? -/
def sidesOk (k : Int) (r : R) : Bool := wordOk k r.1 && wordOk k r.2 && decide (r.1.size ≤ 8) && decide (r.2.size ≤ 8)
theorem sidesOk_1 {k : Int} {u v : ByteArray} (h : wordOk k u = false) : sidesOk k (u, v) = false := by simp [sidesOk, h]
theorem sidesOk_2 {k : Int} {u v : ByteArray} (h : wordOk k v = false) : sidesOk k (u, v) = false := by simp [sidesOk, h]
theorem sidesOk_3 {k : Int} {u v : ByteArray} (h : ¬ u.size ≤ 8) : sidesOk k (u, v) = false := by simp [sidesOk, h]
theorem sidesOk_4 {k : Int} {u v : ByteArray} (h : ¬ v.size ≤ 8) : sidesOk k (u, v) = false := by simp [sidesOk, h]
theorem sidesOk_5 {k : Int} {u v : ByteArray} (h1 : wordOk k u = true) (h2 : wordOk k v = true) (h3 : u.size ≤ 8) (h4 : v.size ≤ 8) : sidesOk k (u, v) = true := by simp [sidesOk, h1, h2, h3, h4]

set_option maxRecDepth 100000 in
set_option maxHeartbeats 800000 in
theorem specSidesOk (k : Int) (u v : ByteArray) (w : World) (hu : u.size ≤ 1048576) (hv : v.size ≤ 1048576) :
    Calls Tryd.prog 63 #[.int .i64 k, .agg #[.string u, .string v]] w fun e w' => e = .returned (.bool (sidesOk k (u, v))) ∧ Below w.heap.size w w' := by
  have Hu : Hid (u.size ≤ 1048576) := hu
  have Hv : Hid (v.size ≤ 1048576) := hv
  clear hu hv
  cases h1 : wordOk k u
  · have He := Lib.hid (sidesOk_1 (v := v) h1)
    have H1 := Lib.hid h1
    clear h1
    go_enter Tryd.func63, Tryd.ntmps63
    go_wp2_with (go_at_call 75; refine (specWordOk k u _ Hu.out).mono ?_; rw [H1.out]; rintro e w' ⟨rfl, rfl⟩)
    go_ret
    exact ⟨ret_bool He.out.symm, bel1 _ _⟩
  cases h2 : wordOk k v
  · have He := Lib.hid (sidesOk_2 (u := u) h2)
    have H1 := Lib.hid h1
    have H2 := Lib.hid h2
    clear h1 h2
    go_enter Tryd.func63, Tryd.ntmps63
    go_wp2_with fail
    refine (specWordOk k u _ Hu.out).mono ?_
    rw [H1.out]
    rintro e w' ⟨rfl, rfl⟩
    go_wp2_with fail
    refine (specWordOk k v _ Hv.out).mono ?_
    rw [H2.out]
    rintro e w' ⟨rfl, rfl⟩
    go_wp2_with fail
    go_ret
    exact ⟨ret_bool He.out.symm, bel1 _ _⟩
  by_cases h3 : u.size ≤ 8
  · by_cases h4 : v.size ≤ 8
    · have He := Lib.hid (sidesOk_5 h1 h2 h3 h4)
      have H1 := Lib.hid h1
      have H2 := Lib.hid h2
      clear h1 h2
      go_enter Tryd.func63, Tryd.ntmps63
      go_wp2_with fail
      refine (specWordOk k u _ Hu.out).mono ?_
      rw [H1.out]
      rintro e w' ⟨rfl, rfl⟩
      go_wp2_with fail
      refine (specWordOk k v _ Hv.out).mono ?_
      rw [H2.out]
      rintro e w' ⟨rfl, rfl⟩
      go_wp2_with fail
      go_ret
      exact ⟨ret_bool (by simp only [He.out]; simp; omega), bel1 _ _⟩
    · have He := Lib.hid (sidesOk_4 (k := k) (u := u) h4)
      have H1 := Lib.hid h1
      have H2 := Lib.hid h2
      clear h1 h2
      go_enter Tryd.func63, Tryd.ntmps63
      go_wp2_with fail
      refine (specWordOk k u _ Hu.out).mono ?_
      rw [H1.out]
      rintro e w' ⟨rfl, rfl⟩
      go_wp2_with fail
      refine (specWordOk k v _ Hv.out).mono ?_
      rw [H2.out]
      rintro e w' ⟨rfl, rfl⟩
      go_wp2_with fail
      go_ret
      exact ⟨ret_bool (by simp only [He.out]; simp; omega), bel1 _ _⟩
  · have He := Lib.hid (sidesOk_3 (k := k) (v := v) h3)
    have H1 := Lib.hid h1
    have H2 := Lib.hid h2
    clear h1 h2
    go_enter Tryd.func63, Tryd.ntmps63
    go_wp2_with fail
    refine (specWordOk k u _ Hu.out).mono ?_
    rw [H1.out]
    rintro e w' ⟨rfl, rfl⟩
    go_wp2_with fail
    refine (specWordOk k v _ Hv.out).mono ?_
    rw [H2.out]
    rintro e w' ⟨rfl, rfl⟩
    go_wp2_with fail
    go_ret
    exact ⟨ret_bool He.out.symm, bel1 _ _⟩

def sideOk (k : Int) (u : ByteArray) : Bool := decide (u.size ≤ 8) && wordOk k u
theorem sidesOk_eq (k : Int) (u v : ByteArray) : sidesOk k (u, v) = (sideOk k u && sideOk k v) := by
  unfold sidesOk sideOk
  cases wordOk k u <;> cases wordOk k v <;> simp
set_option maxRecDepth 100000 in
set_option maxHeartbeats 800000 in
theorem sideOk_any (k : Int) (u : ByteArray) (w : World) (hu : u.size ≤ 1048576) (h : Let w) :
    Calls Tryd.prog 76 #[.int .i64 k, .string u] w fun e w' => e = .returned (.bool (sideOk k u)) ∧ ∃ m, w' = w.drewN m := by
  have Hu : Hid (u.size ≤ 1048576) := hu
  have H := Lib.hid h
  clear hu h
  by_cases h3 : u.size ≤ 8
  · have He := Lib.hid (show wordOk k u = sideOk k u by simp [sideOk, h3])
    go_enter Tryd.func76, Tryd.ntmps76
    go_wp2_with (go_at_call 81; refine (implWordOk k u _ Hu.out H.out).mono ?_; rintro e w' ⟨rfl, m, rfl⟩)
    go_ret
    exact ⟨ret_bool He.out, _, rfl⟩
  · have He := Lib.hid (show false = sideOk k u by simp [sideOk, h3])
    go_enter Tryd.func76, Tryd.ntmps76
    go_wp2_with fail
    go_ret
    exact ⟨ret_bool He.out, 0, rfl⟩
set_option maxRecDepth 100000 in
set_option maxHeartbeats 800000 in
theorem implSidesOk (k : Int) (u v : ByteArray) (w : World) (hu : u.size ≤ 1048576) (hv : v.size ≤ 1048576) (h : Let w) :
    Calls Tryd.prog 66 #[.int .i64 k, .agg #[.string u, .string v]] w fun e w' => e = .returned (.bool (sidesOk k (u, v))) ∧ Below w.heap.size w w' := by
  have Hu : Hid (u.size ≤ 1048576) := hu
  have Hv : Hid (v.size ≤ 1048576) := hv
  have H := Lib.hid (fun o m => (h.keep (bel1 w o) (Nat.le_refl _)).drewN m)
  clear hu hv h
  cases h1 : sideOk k u
  · have He := Lib.hid (show sidesOk k (u, v) = false by rw [sidesOk_eq, h1]; rfl)
    have H1 := Lib.hid h1
    clear h1
    go_enter Tryd.func66, Tryd.ntmps66
    go_wp2_with (go_at_call 76; refine (sideOk_any k u _ Hu.out (H.out _ 0)).mono ?_; rw [H1.out]; rintro e w' ⟨rfl, m, rfl⟩)
    go_ret
    exact ⟨ret_bool He.out.symm, below_drewN (bel1 _ _) _⟩
  · have He := Lib.hid (show sideOk k v = sidesOk k (u, v) by rw [sidesOk_eq, h1]; rfl)
    have H1 := Lib.hid h1
    clear h1
    go_enter Tryd.func66, Tryd.ntmps66
    go_wp2_with fail
    refine (sideOk_any k u _ Hu.out (H.out _ 0)).mono ?_
    rw [H1.out]
    rintro e w' ⟨rfl, m, rfl⟩
    go_wp2_with fail
    refine (sideOk_any k v _ Hv.out (H.out _ m)).mono ?_
    rintro e w' ⟨rfl, m', rfl⟩
    go_wp2_with fail
    go_ret
    exact ⟨ret_bool He.out, below_drewN (bel1 _ _) _⟩

/-- Are these valid rules over k letters? -/
def ruleOk (k : Int) (r : R) : Bool := sidesOk k r && decide (0 < r.1.size)
def rulesOk (k : Int) (l : List R) : Bool := inK k && decide (l.length ≤ 12) && l.all (ruleOk k)
theorem take_step {α : Type} (l : List α) (k : Nat) (r : α) (h : l[k]? = some r) : l.take (k + 1) = l.take k ++ [r] := by
  have hk := (List.getElem?_eq_some_iff.1 h).1
  have he := (List.getElem?_eq_some_iff.1 h).2
  rw [List.take_succ_eq_append_getElem hk, he]
theorem all_bad {α : Type} (l : List α) (k : Nat) (r : α) (p : α → Bool) (h : l[k]? = some r) (hp : p r = false) : l.all p = false := by
  rw [List.all_eq_false]; exact ⟨r, List.mem_of_getElem? h, by simp [hp]⟩
theorem isEmptyL (u : ByteArray) : (u.toList == ([] : List UInt8)) = decide (u.size = 0) := by
  rw [toList_data]
  have : u.data.toList.length = u.size := by simp
  generalize u.data.toList = l at this
  rw [← this]
  cases l <;> simp

set_option maxRecDepth 100000 in
set_option maxHeartbeats 800000 in
theorem specRulesOk (k : Int) (A : Option Addr) (n c B : Nat) (l : List R) (w : World) (h : Own B w (.slice A n c) 2 n (rulesC l)) (hsm : smallR l) :
    Calls Tryd.prog 35 #[.agg #[.int .i64 k, .slice A n c]] w fun e w' => e = .returned (.bool (rulesOk k l)) ∧ Below w.heap.size w w' := by
  have hmax := h.bound
  have hlen := h.rlen
  unfold maxLen at hmax
  cases h1 : inK k
  · have He := Lib.hid (show rulesOk k l = false by simp [rulesOk, h1])
    have Hk := Lib.hid (show k < 1 ∨ 4 < k by simp [inK] at h1; omega)
    clear h1
    go_enter Tryd.func35, Tryd.ntmps35
    go_wp2_with (go_at_call 36; refine (l01In_no _ _ _ _ Hk.out).mono ?_; rintro e w' ⟨rfl, rfl⟩)
    go_ret
    exact ⟨ret_bool He.out.symm, bel1 _ _⟩
  have Hk := Lib.hid (show 1 ≤ k ∧ k ≤ 4 by simpa [inK] using h1)
  by_cases h2 : n ≤ 12
  · have HI := Lib.hid (show inK k = true ∧ n ≤ 12 ∧ l.length = n from ⟨h1, h2, hlen⟩)
    have HO := Lib.hid h
    have Hsm := Lib.hid hsm
    clear h1 hlen h hsm
    go_enter Tryd.func35, Tryd.ntmps35
    go_wp2_with (go_at_call 36; refine (l01In_yes _ _ _ _ Hk.out.1 Hk.out.2).mono ?_; rintro e w' ⟨rfl, rfl⟩)
    go_loopw [18] (fun i wr => ∃ j : Nat, j ≤ n ∧ i = .int .i64 j ∧ Hid ((l.take j).all (ruleOk k) = true) ∧ Hid (Blk wr w.heap.size 32 #[.int .i64 k, .slice A n c]) ∧ Below w.heap.size w wr) (fun i _ => n - (intOf i).toNat)
    case atStart => exact ⟨0, Nat.zero_le _, rfl, rfl, Blk.new1 _ _ _, bel1 _ _⟩
    case round =>
      obtain ⟨j, hj, rfl, HX, HB, hb⟩ := hrel
      have hbs := hb.size
      obtain ⟨q0, q1, -, -, ql⟩ := HB.out.two
      by_cases hlt : j < n
      · obtain ⟨g, off, c0, hv⟩ := HO.out.formR (by omega)
        obtain ⟨rfl, rfl⟩ : A = some ⟨g, off, none⟩ ∧ c = c0 := by injection hv with a _ b; exact ⟨a, b⟩
        clear hv
        obtain ⟨-, hgl, ⟨u, v⟩, hr, x0, x1, -, -⟩ := (HO.out.below hb).rule hlt
        have Hr := Lib.hid hr
        have hsz := Hsm.out _ (List.mem_of_getElem? hr)
        have Hu := Lib.hid hsz.1
        have Hv := Lib.hid hsz.2
        clear hr hsz
        go_wp2_with fail
        refine (specSidesOk k u v _ Hu.out Hv.out).mono ?_
        rintro e w1 ⟨rfl, hb1⟩
        obtain ⟨y0, y1, -, -, yl⟩ := ((Blk.new1 wr _ _).below hb1 (by simp)).two
        have HB1 := Lib.hid ((HB.out.alloc _).below hb1 (by simp; omega))
        have hbw1 := (hb.alloc hb.size _).trans (hb1.mono (by simp; omega))
        clear hb1 x0 x1 q0 q1 HB hb
        cases hso : sidesOk k (u, v)
        · have He := Lib.hid (show rulesOk k l = false by simp [rulesOk, all_bad l j _ (ruleOk k) Hr.out (by simp [ruleOk, hso])])
          clear hso
          go_wp2_with fail
          go_ret
          exact ⟨ret_bool He.out.symm, hbw1⟩
        · by_cases hz : u.size = 0
          · have hz1 : (u.toList == []) = true := by rw [isEmptyL]; simp [hz]
            have He := Lib.hid (show rulesOk k l = false by simp [rulesOk, all_bad l j _ (ruleOk k) Hr.out (by simp [ruleOk, hz])])
            clear hso hz
            go_wp2_with fail
            go_ret
            exact ⟨ret_bool He.out.symm, hbw1⟩
          · have hz1 : (u.toList == []) = false := by rw [isEmptyL]; simp [hz]
            have HX2 : Hid ((l.take (j + 1)).all (ruleOk k) = true) := by
              show _ = true
              rw [take_step l j _ Hr.out, List.all_append, HX.out]; simp [ruleOk, hso]; omega
            clear hso hz
            go_wp2_with fail
            go_roundw
            case rel => exact ⟨j + 1, by omega, by go_num, HX2, HB1, hbw1⟩
            case measure => simp [intOf]; omega
      · have He := Lib.hid (show true = rulesOk k l by
          have h1 := HX.out
          obtain ⟨i1, i2, i3⟩ := HI.out
          rw [List.take_of_length_le (by omega)] at h1
          simp [rulesOk, i1, i2, i3, h1])
        go_wp2_with fail
        go_ret
        exact ⟨ret_bool He.out, hb⟩
  · have He := Lib.hid (show rulesOk k l = false by simp [rulesOk, h1]; omega)
    clear h1 hlen
    go_enter Tryd.func35, Tryd.ntmps35
    go_wp2_with (go_at_call 36; refine (l01In_yes _ _ _ _ Hk.out.1 Hk.out.2).mono ?_; rintro e w' ⟨rfl, rfl⟩)
    go_ret
    exact ⟨ret_bool He.out.symm, bel1 _ _⟩

set_option maxRecDepth 100000 in
set_option maxHeartbeats 800000 in
theorem implRulesOk (k : Int) (A : Option Addr) (n c B : Nat) (l : List R) (w : World) (h : Own B w (.slice A n c) 2 n (rulesC l)) (hsm : smallR l) (hlet : Let w) :
    Calls Tryd.prog 40 #[.agg #[.int .i64 k, .slice A n c]] w fun e w' => e = .returned (.bool (rulesOk k l)) ∧ Below w.heap.size w w' := by
  have hmax := h.bound
  have hlen := h.rlen
  have HL := Lib.hid (fun (w' : World) (hb : Below w.heap.size w w') => hlet.keep hb (Nat.le_refl _))
  clear hlet
  unfold maxLen at hmax
  cases h1 : inK k
  · have He := Lib.hid (show rulesOk k l = false by simp [rulesOk, h1])
    have Hk := Lib.hid h1
    clear h1
    go_enter Tryd.func40, Tryd.ntmps40
    go_wp2_with (go_at_call 65; refine (lettersOk_any _ _).mono ?_; rw [Hk.out]; rintro e w' ⟨rfl, rfl⟩)
    go_ret
    exact ⟨ret_bool He.out.symm, bel1 _ _⟩
  have Hk := Lib.hid h1
  by_cases h2 : n ≤ 12
  · have HI := Lib.hid (show inK k = true ∧ n ≤ 12 ∧ l.length = n from ⟨h1, h2, hlen⟩)
    have HO := Lib.hid h
    have Hsm := Lib.hid hsm
    clear h1 hlen h hsm
    go_enter Tryd.func40, Tryd.ntmps40
    go_wp2_with (go_at_call 65; refine (lettersOk_any _ _).mono ?_; rw [Hk.out]; rintro e w' ⟨rfl, rfl⟩)
    go_loopw [18] (fun i wr => ∃ j : Nat, j ≤ n ∧ i = .int .i64 j ∧ Hid ((l.take j).all (ruleOk k) = true) ∧ Hid (Blk wr w.heap.size 32 #[.int .i64 k, .slice A n c]) ∧ Below w.heap.size w wr) (fun i _ => n - (intOf i).toNat)
    case atStart => exact ⟨0, Nat.zero_le _, rfl, rfl, Blk.new1 _ _ _, bel1 _ _⟩
    case round =>
      obtain ⟨j, hj, rfl, HX, HB, hb⟩ := hrel
      have hbs := hb.size
      obtain ⟨q0, q1, -, -, ql⟩ := HB.out.two
      by_cases hlt : j < n
      · obtain ⟨g, off, c0, hv⟩ := HO.out.formR (by omega)
        obtain ⟨rfl, rfl⟩ : A = some ⟨g, off, none⟩ ∧ c = c0 := by injection hv with a _ b; exact ⟨a, b⟩
        clear hv
        obtain ⟨-, hgl, ⟨u, v⟩, hr, x0, x1, -, -⟩ := (HO.out.below hb).rule hlt
        have Hr := Lib.hid hr
        have hsz := Hsm.out _ (List.mem_of_getElem? hr)
        have Hu := Lib.hid hsz.1
        have Hv := Lib.hid hsz.2
        clear hr hsz
        by_cases hz : u.size = 0
        · have hz1 : (u.toList == []) = true := by rw [isEmptyL]; simp [hz]
          have He := Lib.hid (show rulesOk k l = false by simp [rulesOk, all_bad l j _ (ruleOk k) Hr.out (by simp [ruleOk, hz])])
          have hbw1 := fun o => hb.alloc hb.size o
          clear hz
          go_wp2_with fail
          go_ret
          exact ⟨ret_bool He.out.symm, hbw1 _⟩
        · have hz1 : (u.toList == []) = false := by rw [isEmptyL]; simp [hz]
          have Hz := Lib.hid hz
          clear hz
          go_wp2_with fail
          refine (implSidesOk k u v _ Hu.out Hv.out (HL.out _ (hb.alloc hb.size _))).mono ?_
          rintro e w1 ⟨rfl, hb1⟩
          have HB1 := Lib.hid ((HB.out.alloc _).below hb1 (by simp; omega))
          have hbw1 := (hb.alloc hb.size _).trans (hb1.mono (by simp; omega))
          clear hb1 x0 x1 q0 q1 HB hb
          cases hso : sidesOk k (u, v)
          · have He := Lib.hid (show rulesOk k l = false by simp [rulesOk, all_bad l j _ (ruleOk k) Hr.out (by simp [ruleOk, hso])])
            clear hso
            go_wp2_with fail
            go_ret
            exact ⟨ret_bool He.out.symm, hbw1⟩
          · have HX2 : Hid ((l.take (j + 1)).all (ruleOk k) = true) := by
              show _ = true
              have := Hz.out
              rw [take_step l j _ Hr.out, List.all_append, HX.out]; simp [ruleOk, hso]; omega
            clear hso
            go_wp2_with fail
            go_roundw
            case rel => exact ⟨j + 1, by omega, by go_num, HX2, HB1, hbw1⟩
            case measure => simp [intOf]; omega
      · have He := Lib.hid (show true = rulesOk k l by
          have h1 := HX.out
          obtain ⟨i1, i2, i3⟩ := HI.out
          rw [List.take_of_length_le (by omega)] at h1
          simp [rulesOk, i1, i2, i3, h1])
        go_wp2_with fail
        go_ret
        exact ⟨ret_bool He.out, hb⟩
  · have He := Lib.hid (show rulesOk k l = false by simp [rulesOk, h1]; omega)
    clear h1 hlen
    go_enter Tryd.func40, Tryd.ntmps40
    go_wp2_with (go_at_call 65; refine (lettersOk_any _ _).mono ?_; rw [Hk.out]; rintro e w' ⟨rfl, rfl⟩)
    go_ret
    exact ⟨ret_bool He.out.symm, bel1 _ _⟩

/-- Is the right side less than the left one? -/
def ordered (r : R) : Bool := lessS r.2 r.1
def systemOk (k : Int) (l : List R) : Bool := rulesOk k l && l.all ordered

set_option maxHeartbeats 400000 in
theorem isOrdered_any (u v : ByteArray) (w : World) :
    Calls Tryd.prog 86 #[.agg #[.string u, .string v]] w fun e w' => e = .returned (.bool (ordered (u, v))) ∧ Below w.heap.size w w' := by
  go_enter Tryd.func86, Tryd.ntmps86
  go_wp2_with fail
  refine (implIsLess v u _).mono ?_
  rintro e w1 ⟨rfl, rfl⟩
  go_wp2_with fail
  go_ret
  exact ⟨rfl, bel1 _ _⟩

set_option maxRecDepth 100000 in
set_option maxHeartbeats 800000 in
theorem implSystemOk (k : Int) (A : Option Addr) (n c B : Nat) (l : List R) (w : World) (h : Own B w (.slice A n c) 2 n (rulesC l)) (hsm : smallR l) (hlet : Let w) :
    Calls Tryd.prog 80 #[.agg #[.int .i64 k, .slice A n c]] w fun e w' => e = .returned (.bool (systemOk k l)) ∧ Below w.heap.size w w' := by
  have hmax := h.bound
  have hlen := h.rlen
  have HL := Lib.hid (fun (w' : World) (hb : Below w.heap.size w w') => hlet.keep hb (Nat.le_refl _))
  clear hlet
  unfold maxLen at hmax
  have HO := Lib.hid h
  have Hlen := Lib.hid hlen
  clear h hlen
  go_enter Tryd.func80, Tryd.ntmps80
  go_wp2_with fail
  refine (implRulesOk k _ _ _ B l _ (HO.out.below (bel1 _ _)) hsm (HL.out _ (bel1 _ _))).mono ?_
  rintro e w1 ⟨rfl, hb1⟩
  have HB1 := Lib.hid ((Blk.new1 w _ _).below hb1 (by simp))
  have hbw1 := (bel1 w _).trans (hb1.mono (by simp))
  clear hb1 hsm
  obtain ⟨q0, q1, -, -, ql⟩ := HB1.out.two
  cases h1 : rulesOk k l
  · have He := Lib.hid (show systemOk k l = false by simp [systemOk, h1])
    clear h1
    go_wp2_with fail
    go_ret
    exact ⟨ret_bool He.out.symm, hbw1⟩
  · have Hk := Lib.hid h1
    clear h1
    go_wp2_with fail
    go_loopw [11] (fun i wr => ∃ j : Nat, j ≤ n ∧ i = .int .i64 j ∧ Hid ((l.take j).all ordered = true) ∧ Below w.heap.size w wr) (fun i _ => n - (intOf i).toNat)
    case atStart => exact ⟨0, Nat.zero_le _, rfl, rfl, hbw1⟩
    case round =>
      obtain ⟨j, hj, rfl, HX, hb⟩ := hrel
      have hbs := hb.size
      by_cases hlt : j < n
      · obtain ⟨g, off, c0, hv⟩ := HO.out.formR (by omega)
        obtain ⟨rfl, rfl⟩ : A = some ⟨g, off, none⟩ ∧ c = c0 := by injection hv with a _ b; exact ⟨a, b⟩
        clear hv
        obtain ⟨-, hgl, ⟨u, v⟩, hr, x0, x1, -, -⟩ := (HO.out.below hb).rule hlt
        have Hr := Lib.hid hr
        clear hr
        go_wp2_with fail
        refine (isOrdered_any u v _).mono ?_
        rintro e w2 ⟨rfl, hb1⟩
        have hbw2 := (hb.alloc hb.size _).trans (hb1.mono (by simp; omega))
        clear hb1 x0 x1 hb
        cases hso : ordered (u, v)
        · have He := Lib.hid (show systemOk k l = false by simp [systemOk, all_bad l j _ ordered Hr.out hso])
          clear hso
          go_wp2_with fail
          go_ret
          exact ⟨ret_bool He.out.symm, hbw2⟩
        · have HX2 : Hid ((l.take (j + 1)).all ordered = true) := by
            show _ = true
            rw [take_step l j _ Hr.out, List.all_append, HX.out]; simp [hso]
          clear hso
          go_wp2_with fail
          go_roundw
          case rel => exact ⟨j + 1, by omega, by go_num, HX2, hbw2⟩
          case measure => simp [intOf]; omega
      · have He := Lib.hid (show true = systemOk k l by
          have h1 := HX.out
          rw [List.take_of_length_le (by rw [Hlen.out]; omega)] at h1
          simp [systemOk, Hk.out, h1])
        go_wp2_with fail
        go_ret
        exact ⟨ret_bool He.out, hb⟩

set_option maxRecDepth 100000 in
set_option maxHeartbeats 800000 in
theorem specSystemOk (k : Int) (A : Option Addr) (n c B : Nat) (l : List R) (w : World) (h : Own B w (.slice A n c) 2 n (rulesC l)) (hsm : smallR l) :
    Calls Tryd.prog 77 #[.agg #[.int .i64 k, .slice A n c]] w fun e w' => e = .returned (.bool (systemOk k l)) ∧ Below w.heap.size w w' := by
  have hmax := h.bound
  have hlen := h.rlen
  unfold maxLen at hmax
  have HO := Lib.hid h
  have Hlen := Lib.hid hlen
  clear h hlen
  go_enter Tryd.func77, Tryd.ntmps77
  go_wp2_with fail
  refine (specRulesOk k _ _ _ B l _ (HO.out.below (bel1 _ _)) hsm).mono ?_
  rintro e w1 ⟨rfl, hb1⟩
  have HB1 := Lib.hid ((Blk.new1 w _ _).below hb1 (by simp))
  have hbw1 := (bel1 w _).trans (hb1.mono (by simp))
  clear hb1 hsm
  obtain ⟨q0, q1, -, -, ql⟩ := HB1.out.two
  cases h1 : rulesOk k l
  · have He := Lib.hid (show systemOk k l = false by simp [systemOk, h1])
    clear h1
    go_wp2_with fail
    go_ret
    exact ⟨ret_bool He.out.symm, hbw1⟩
  · have Hk := Lib.hid h1
    clear h1
    go_wp2_with fail
    go_loopw [11] (fun i wr => ∃ j : Nat, j ≤ n ∧ i = .int .i64 j ∧ Hid ((l.take j).all ordered = true) ∧ Below w.heap.size w wr) (fun i _ => n - (intOf i).toNat)
    case atStart => exact ⟨0, Nat.zero_le _, rfl, rfl, hbw1⟩
    case round =>
      obtain ⟨j, hj, rfl, HX, hb⟩ := hrel
      have hbs := hb.size
      by_cases hlt : j < n
      · obtain ⟨g, off, c0, hv⟩ := HO.out.formR (by omega)
        obtain ⟨rfl, rfl⟩ : A = some ⟨g, off, none⟩ ∧ c = c0 := by injection hv with a _ b; exact ⟨a, b⟩
        clear hv
        obtain ⟨-, hgl, ⟨u, v⟩, hr, x0, x1, -, -⟩ := (HO.out.below hb).rule hlt
        have Hr := Lib.hid hr
        clear hr
        have hbw2 := Lib.hid (fun o => hb.alloc hb.size o)
        go_wp2_with fail
        refine (specIsLess v u _).mono ?_
        rintro e w2 ⟨rfl, rfl⟩
        clear hb
        cases hso : lessS v u
        · have He := Lib.hid (show systemOk k l = false by simp [systemOk, all_bad l j _ ordered Hr.out hso])
          clear hso
          go_wp2_with fail
          go_ret
          exact ⟨ret_bool He.out.symm, hbw2.out _⟩
        · have HX2 : Hid ((l.take (j + 1)).all ordered = true) := by
            show _ = true
            rw [take_step l j _ Hr.out, List.all_append, HX.out]; simp [ordered, hso]
          clear hso
          go_wp2_with fail
          go_roundw
          case rel => exact ⟨j + 1, by omega, by go_num, HX2, hbw2.out _⟩
          case measure => simp [intOf]; omega
      · have He := Lib.hid (show true = systemOk k l by
          have h1 := HX.out
          rw [List.take_of_length_le (by rw [Hlen.out]; omega)] at h1
          simp [systemOk, Hk.out, h1])
        go_wp2_with fail
        go_ret
        exact ⟨ret_bool He.out, hb⟩

/-- What OrientRule answers. -/
def orient (k : Int) (r : R) : R × Bool :=
  if sidesOk k r && decide (r.1 ≠ r.2) then (if lessS r.1 r.2 then (r.2, r.1) else r, true) else ((⟨#[]⟩, ⟨#[]⟩), false)
end Go.Proofs.YtddifhbjjiphiaaDoor
