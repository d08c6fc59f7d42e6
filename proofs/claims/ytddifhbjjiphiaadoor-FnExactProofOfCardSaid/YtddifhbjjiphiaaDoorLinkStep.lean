/- One link: both ApplyLink, ruleFor, hasBytes with no bytes. -/
import Derived.Test.YtddifhbjjiphiaaDoorApply
import Derived.Test.YtddifhbjjiphiaaDoorL01In
import Derived.Test.YtddifhbjjiphiaaDoorLinks
namespace Go.Proofs.YtddifhbjjiphiaaDoor
open Go.RowKit

def ruleFor (r : R) (b : Bool) : R := if b then (r.2, r.1) else r
def inLB (l : List R) (s : ByteArray) (x : LK) : Bool := decide (0 ≤ x.1 ∧ x.1 < l.length ∧ 0 ≤ x.2.1 ∧ x.2.1 ≤ s.size)
def begLB (l : List R) (s : ByteArray) (x : LK) : Bool := match l[x.1.toNat]? with | some r => atP s (ruleFor r x.2.2).1 x.2.1.toNat | none => false
def linkB (l : List R) (s : ByteArray) (x : LK) : Bool := inLB l s x && begLB l s x
def afterL (l : List R) (s : ByteArray) (x : LK) : ByteArray × Bool := match l[x.1.toNat]? with | some r => repS s (ruleFor r x.2.2).2 x.2.1 (ruleFor r x.2.2).1.size | none => (⟨#[]⟩, false)
/-- What ApplyLink answers. -/
def linkS (k : Int) (l : List R) (s : ByteArray) (x : LK) : ByteArray × Bool := if rulesOk k l && linkB l s x then afterL l s x else (⟨#[]⟩, false)
theorem linkS_bad {k : Int} {l : List R} {s : ByteArray} {x : LK} (h : rulesOk k l = false ∨ inLB l s x = false ∨ begLB l s x = false) : linkS k l s x = (⟨#[]⟩, false) := by
  rw [linkS, linkB]
  rcases h with h | h | h <;> simp [h]
theorem linkS_at {k : Int} {l : List R} {s : ByteArray} {x : LK} {r : R} (h1 : rulesOk k l = true) (h2 : inLB l s x = true) (hr : l[x.1.toNat]? = some r) (h3 : atP s (ruleFor r x.2.2).1 x.2.1.toNat = true) :
    linkS k l s x = repS s (ruleFor r x.2.2).2 x.2.1 (ruleFor r x.2.2).1.size := by
  rw [linkS, linkB, h1, h2, begLB, hr]
  simp only [h3, Bool.and_true, if_true]
  rw [afterL, hr]
theorem linkS_no {k : Int} {l : List R} {s : ByteArray} {x : LK} {r : R} (hr : l[x.1.toNat]? = some r) (h3 : atP s (ruleFor r x.2.2).1 x.2.1.toNat = false) : linkS k l s x = (⟨#[]⟩, false) :=
  linkS_bad (.inr (.inr (by rw [begLB, hr]; exact h3)))
theorem linkS_size (k : Int) (l : List R) (s : ByteArray) (x : LK) : (linkS k l s x).1.size ≤ 1048576 := by
  unfold linkS
  split
  · unfold afterL
    split
    · unfold repS
      split
      · rename_i h
        have h := of_decide_eq_true h
        simp only [ByteArray.size_append, ByteArray.size_extract]
        omega
      · show 0 ≤ _; omega
    · show 0 ≤ _; omega
  · show 0 ≤ _; omega

set_option maxHeartbeats 400000 in
theorem l06Swap_any (u v : ByteArray) (w : World) :
    Calls Tryd.prog 37 #[.string u, .string v] w fun e w' => e = .returned (.tuple #[.string v, .string u]) ∧ w = w' := by
  go_enter Tryd.func37, Tryd.ntmps37
  go_wp2_with fail
  go_ret2
  exact ⟨rfl, rfl⟩
set_option maxRecDepth 100000 in
set_option maxHeartbeats 1600000 in
theorem specApplyLink (k : Int) (A : Option Addr) (n c B : Nat) (l : List R) (s : ByteArray) (x y : Int) (b : Bool) (w : World) (h : Own B w (.slice A n c) 2 n (rulesC l)) (hsm : smallR l) (hs : s.size ≤ 1048576) :
    Calls Tryd.prog 10 #[.agg #[.int .i64 k, .slice A n c], .string s, .agg #[.int .i64 x, .int .i64 y, .bool b]] w fun e w' => e = .returned (.tuple #[.string (linkS k l s (x, y, b)).1, .bool (linkS k l s (x, y, b)).2]) ∧ Below w.heap.size w w' := by
  have HO := Lib.hid h
  have hlen := h.rlen
  clear h
  go_enter Tryd.func10, Tryd.ntmps10
  go_wp2_with fail
  refine (specRulesOk k A n c B l _ (HO.out.below (bel2 _ _ _)) hsm).mono ?_
  rintro e w1 ⟨rfl, hb1⟩
  have b1 := (bel2 w _ _).trans (hb1.mono (by simp; omega))
  obtain ⟨q0, q1, -, -, ql⟩ := (((Blk.new1 w _ _).alloc _).below hb1 (by simp; omega)).two
  have HZ := Lib.hid ((Blk.new2 w _ _ _).below hb1 (by simp))
  have z0 := HZ.out.cell 0
  have z1 := HZ.out.cell 1
  have z2 := HZ.out.cell 2
  clear hb1
  cases h1 : rulesOk k l
  · have HF : Hid (linkS k l s (x, y, b) = (⟨#[]⟩, false)) := linkS_bad (.inl h1)
    clear h1
    go_wp2_with fail
    go_ret2
    exact ⟨ret_sb HF.out.symm, b1⟩
  have Hk := Lib.hid h1
  have hn12 : n ≤ 12 := by rw [← hlen]; exact rulesOk_len h1
  clear h1
  go_wp2_with fail
  by_cases hx : 0 ≤ x ∧ x ≤ (n : Int) - 1
  · refine (l01In_yes _ _ _ _ hx.1 hx.2).mono ?_
    rintro e w2 ⟨rfl, rfl⟩
    go_wp2_with fail
    by_cases hy : 0 ≤ y ∧ y ≤ (s.size : Int)
    · refine (l01In_yes _ _ _ _ hy.1 hy.2).mono ?_
      rintro e w2 ⟨rfl, rfl⟩
      have Hin : Hid (inLB l s (x, y, b) = true) := by show _ = _; rw [inLB]; simp only [decide_eq_true_eq]; omega
      obtain ⟨i, rfl⟩ : ∃ i : Nat, x = i := ⟨x.toNat, by omega⟩
      obtain ⟨p, rfl⟩ : ∃ p : Nat, y = p := ⟨y.toNat, by omega⟩
      have hin : i < n := by omega
      have hps : p ≤ s.size := by omega
      obtain ⟨g, off, c0, hv⟩ := HO.out.formR (by omega)
      obtain ⟨rfl, rfl⟩ : A = some ⟨g, off, none⟩ ∧ c = c0 := by injection hv with a _ b; exact ⟨a, b⟩
      obtain ⟨-, hgl, ⟨u, v⟩, hr, y0, y1, -, -⟩ := (HO.out.below b1).rule hin
      have hrs := hsm _ (List.mem_of_getElem? hr)
      have Hr : Hid (l[((i : Int), (p : Int), b).1.toNat]? = some (u, v)) := by show _ = _; simpa using hr
      have hnb := HO.out.bound
      unfold maxLen at hnb
      clear hv hr hx hy
      dsimp only at hrs y0 y1
      cases b
      · by_cases hq : s.size < p + u.size
        · have HF : Hid (linkS k l s ((i : Int), (p : Int), false) = (⟨#[]⟩, false)) := linkS_no Hr.out (by show atP s u p = false; unfold atP; rw [decide_eq_false (by omega), Bool.false_and])
          go_wp2_with fail
          go_ret2
          exact ⟨ret_sb HF.out.symm, b1⟩
        cases he : ((s.extract p (p + u.size)).toList == u.toList)
        · have HF : Hid (linkS k l s ((i : Int), (p : Int), false) = (⟨#[]⟩, false)) := linkS_no Hr.out (by show atP s u p = false; unfold atP; rw [he, Bool.and_false])
          go_wp2_with fail
          go_ret2
          exact ⟨ret_sb HF.out.symm, b1⟩
        have HA : Hid (linkS k l s ((i : Int), (p : Int), false) = repS s v (p : Int) (u.size : Int)) := linkS_at Hk.out Hin.out Hr.out (by show atP s u p = true; unfold atP; rw [he, decide_eq_true (by omega)]; rfl)
        go_wp2_with fail
        refine (specReplaceAt s v p u.size _ hs (by omega) (by omega) (by omega) (by omega) (by omega)).mono ?_
        rintro e w3 hR
        obtain ⟨rfl, m3, rfl⟩ := hR.fn
        clear hR
        generalize repS s v (p : Int) (u.size : Int) = rr at *
        obtain ⟨r1, r2⟩ := rr
        go_wp2_with fail
        go_ret2
        exact ⟨ret_sb HA.out.symm, below_drewN b1 _⟩
      · by_cases hq : s.size < p + v.size
        · have HF : Hid (linkS k l s ((i : Int), (p : Int), true) = (⟨#[]⟩, false)) := linkS_no Hr.out (by show atP s v p = false; unfold atP; rw [decide_eq_false (by omega), Bool.false_and])
          go_wp2_with fail
          refine (l06Swap_any _ _ _).mono ?_
          rintro e w2 ⟨rfl, rfl⟩
          go_wp2_with fail
          go_ret2
          exact ⟨ret_sb HF.out.symm, b1⟩
        cases he : ((s.extract p (p + v.size)).toList == v.toList)
        · have HF : Hid (linkS k l s ((i : Int), (p : Int), true) = (⟨#[]⟩, false)) := linkS_no Hr.out (by show atP s v p = false; unfold atP; rw [he, Bool.and_false])
          go_wp2_with fail
          refine (l06Swap_any _ _ _).mono ?_
          rintro e w2 ⟨rfl, rfl⟩
          go_wp2_with fail
          go_ret2
          exact ⟨ret_sb HF.out.symm, b1⟩
        have HA : Hid (linkS k l s ((i : Int), (p : Int), true) = repS s u (p : Int) (v.size : Int)) := linkS_at Hk.out Hin.out Hr.out (by show atP s v p = true; unfold atP; rw [he, decide_eq_true (by omega)]; rfl)
        go_wp2_with fail
        refine (l06Swap_any _ _ _).mono ?_
        rintro e w2 ⟨rfl, rfl⟩
        go_wp2_with fail
        refine (specReplaceAt s u p v.size _ hs (by omega) (by omega) (by omega) (by omega) (by omega)).mono ?_
        rintro e w3 hR
        obtain ⟨rfl, m3, rfl⟩ := hR.fn
        clear hR
        generalize repS s u (p : Int) (v.size : Int) = rr at *
        obtain ⟨r1, r2⟩ := rr
        go_wp2_with fail
        go_ret2
        exact ⟨ret_sb HA.out.symm, below_drewN b1 _⟩
    · refine (l01In_no _ _ _ _ (by omega)).mono ?_
      rintro e w2 ⟨rfl, rfl⟩
      have HF : Hid (linkS k l s (x, y, b) = (⟨#[]⟩, false)) := linkS_bad (.inr (.inl (by rw [inLB]; simp only [decide_eq_false_iff_not]; omega)))
      go_wp2_with fail
      go_ret2
      exact ⟨ret_sb HF.out.symm, b1⟩
  · refine (l01In_no _ _ _ _ (by omega)).mono ?_
    rintro e w2 ⟨rfl, rfl⟩
    have HF : Hid (linkS k l s (x, y, b) = (⟨#[]⟩, false)) := linkS_bad (.inr (.inl (by rw [inLB]; simp only [decide_eq_false_iff_not]; omega)))
    go_wp2_with fail
    go_ret2
    exact ⟨ret_sb HF.out.symm, b1⟩

set_option maxHeartbeats 800000 in
theorem ruleFor_any (k : Int) (A : Option Addr) (n c B : Nat) (l : List R) (i : Nat) (y : Int) (b : Bool) (r : R) (w : World) (h : Own B w (.slice A n c) 2 n (rulesC l)) (hr : l[i]? = some r) :
    Calls Tryd.prog 41 #[.agg #[.int .i64 k, .slice A n c], .agg #[.int .i64 i, .int .i64 y, .bool b]] w fun e w' => e = .returned (.agg #[.string (ruleFor r b).1, .string (ruleFor r b).2]) ∧ Below w.heap.size w w' := by
  have hmax := h.bound
  have hin := h.rule_mem hr
  unfold maxLen at hmax
  obtain ⟨g, off, c0, hv⟩ := h.formR (by omega)
  obtain ⟨rfl, rfl⟩ : A = some ⟨g, off, none⟩ ∧ c = c0 := by injection hv with a _ b; exact ⟨a, b⟩
  clear hv
  have h2 := h.below (bel3 w (.cells #[.int .i64 k, .slice (some ⟨g, off, none⟩) n c] 32) (.cells #[.int .i64 i, .int .i64 y, .bool b] 34) (.cells #[.string ⟨#[]⟩, .string ⟨#[]⟩] 63))
  obtain ⟨-, hgl, ⟨u, v⟩, hr3, y0, y1, -, -⟩ := h2.rule hin
  obtain rfl : r = (u, v) := by rw [hr] at hr3; exact Option.some.inj hr3
  clear hr3 h2 h hr
  cases b
  · go_enter Tryd.func41, Tryd.ntmps41
    go_wp2_with fail
    exact bodyPost_ret (v := .agg #[.string u, .string v]) (by simp [results, Tryd.results41, go_sem]) rfl ⟨rfl, bel4 _ _ _ _ _⟩
  · go_enter Tryd.func41, Tryd.ntmps41
    go_wp2_with fail
    exact bodyPost_ret (v := .agg #[.string v, .string u]) (by simp [results, Tryd.results41, go_sem]) rfl ⟨rfl, bel4 _ _ _ _ _⟩
set_option maxHeartbeats 400000 in
theorem hasBytes0_any (s : ByteArray) (p : Int) (w : World) (hs : s.size ≤ 1048576) :
    Calls Tryd.prog 42 #[.string s, .int .i64 p, .int .i64 0] w fun e w' => e = .returned (.bool (hasB s p 0)) ∧ w = w' := by
  by_cases h1 : 0 ≤ p
  · by_cases h3 : p ≤ (s.size : Int)
    · have He := Lib.hid (show true = hasB s p 0 by unfold hasB; simp [h1, h3])
      go_enter Tryd.func42, Tryd.ntmps42
      go_wp2_with fail
      go_ret
      exact ⟨ret_bool He.out, rfl⟩
    · have He := Lib.hid (show false = hasB s p 0 by unfold hasB; simp [h3])
      go_enter Tryd.func42, Tryd.ntmps42
      go_wp2_with fail
      go_ret
      exact ⟨ret_bool He.out, rfl⟩
  · have He := Lib.hid (show false = hasB s p 0 by unfold hasB; simp [h1])
    go_enter Tryd.func42, Tryd.ntmps42
    go_wp2_with fail
    go_ret
    exact ⟨ret_bool He.out, rfl⟩
set_option maxRecDepth 100000 in
set_option maxHeartbeats 1600000 in
theorem implApplyLink (k : Int) (A : Option Addr) (n c B : Nat) (l : List R) (s : ByteArray) (x y : Int) (b : Bool) (w : World) (h : Own B w (.slice A n c) 2 n (rulesC l)) (hsm : smallR l) (hs : s.size ≤ 1048576) (hlet : Let w) :
    Calls Tryd.prog 13 #[.agg #[.int .i64 k, .slice A n c], .string s, .agg #[.int .i64 x, .int .i64 y, .bool b]] w fun e w' => e = .returned (.tuple #[.string (linkS k l s (x, y, b)).1, .bool (linkS k l s (x, y, b)).2]) ∧ Below w.heap.size w w' := by
  have HO := Lib.hid h
  have hlen := h.rlen
  have HL := Lib.hid (fun (w' : World) (hb : Below w.heap.size w w') => hlet.keep hb (Nat.le_refl _))
  clear h hlet
  go_enter Tryd.func13, Tryd.ntmps13
  go_wp2_with fail
  refine (implRulesOk k A n c B l _ (HO.out.below (bel2 _ _ _)) hsm (HL.out _ (bel2 _ _ _))).mono ?_
  rintro e w1 ⟨rfl, hb1⟩
  have b1 := (bel2 w _ _).trans (hb1.mono (by simp; omega))
  obtain ⟨q0, q1, -, -, ql⟩ := (((Blk.new1 w _ _).alloc _).below hb1 (by simp; omega)).two
  have HZ := Lib.hid ((Blk.new2 w _ _ _).below hb1 (by simp))
  have z0 := HZ.out.cell 0
  have z1 := HZ.out.cell 1
  have z2 := HZ.out.cell 2
  have zl := HZ.out.lt
  clear hb1
  cases h1 : rulesOk k l
  · have HF : Hid (linkS k l s (x, y, b) = (⟨#[]⟩, false)) := linkS_bad (.inl h1)
    clear h1
    go_wp2_with fail
    go_ret2
    exact ⟨ret_sb HF.out.symm, b1⟩
  have Hk := Lib.hid h1
  have hn12 : n ≤ 12 := by rw [← hlen]; exact rulesOk_len h1
  clear h1
  by_cases hx : 0 ≤ x ∧ x < (n : Int)
  · obtain ⟨i, rfl⟩ : ∃ i : Nat, x = i := ⟨x.toNat, by omega⟩
    have hin : i < n := by omega
    obtain ⟨r, hr⟩ : ∃ r, l[i]? = some r := ⟨l[i]'(by omega), List.getElem?_eq_getElem (by omega)⟩
    have hrs := hsm _ (List.mem_of_getElem? hr)
    have Hr : Hid (l[((i : Int), y, b).1.toNat]? = some r) := by show _ = _; simpa using hr
    have Hri := Lib.hid hr
    have hrf : (ruleFor r b).1.size ≤ 1048576 ∧ (ruleFor r b).2.size ≤ 1048576 := by unfold ruleFor; split <;> exact ⟨by simp_all, by simp_all⟩
    clear hx hr hrs
    go_wp2_with fail
    refine (ruleFor_any k A n c B l i y b r _ (HO.out.below b1) Hri.out).mono ?_
    rintro e w2 ⟨rfl, hb2⟩
    generalize hf : ruleFor r b = rf at *
    have Hf := Lib.hid hf
    obtain ⟨f1, f2⟩ := rf
    dsimp only at hrf
    have b2 := b1.trans (hb2.mono b1.size)
    have b3 := b2.alloc b2.size (.cells #[.string f1, .string f2] 63)
    have z1' := (hb2.cell (p := ⟨w.heap.size + 1, 1, none⟩) zl).trans z1
    have zl2 : w.heap.size + 1 < w2.heap.size := Nat.lt_of_lt_of_le zl hb2.size
    have HR2 := Lib.hid (Blk.new1 w2 #[.string f1, .string f2] 63)
    clear q0 q1 ql z0 z1 z2 zl HZ hb2 hf
    obtain ⟨r0, r1, -, -, rl⟩ := HR2.out.two
    go_wp2_with fail
    refine (hasBytes0_any s y _ hs).mono ?_
    rintro e w4 ⟨rfl, rfl⟩
    by_cases hy : 0 ≤ y ∧ y ≤ (s.size : Int)
    · have Hin : Hid (inLB l s ((i : Int), y, b) = true) := by show _ = _; rw [inLB]; simp only [decide_eq_true_eq]; omega
      rw [show hasB s y 0 = true from decide_eq_true (by omega)]
      obtain ⟨p, rfl⟩ : ∃ p : Nat, y = p := ⟨y.toNat, by omega⟩
      have hps : p ≤ s.size := by omega
      clear hy
      go_wp2_with fail
      refine (beginsAt_any f1 f2 s p _ hps).mono ?_
      rintro e w5 ⟨rfl, hb5⟩
      have b5 := b3.trans (hb5.mono b3.size)
      have HR5 := Lib.hid (HR2.out.below hb5 HR2.out.lt)
      have z1'' := (hb5.cell (p := ⟨w.heap.size + 1, 1, none⟩) (by simp; omega)).trans (((bel1 w2 _).cell (p := ⟨w.heap.size + 1, 1, none⟩) zl2).trans z1')
      clear hb5 r0 r1 rl HR2 z1' b3
      obtain ⟨r0, r1, -, -, rl⟩ := HR5.out.two
      cases he : atP s f1 p
      · have HF : Hid (linkS k l s ((i : Int), (p : Int), b) = (⟨#[]⟩, false)) := linkS_no Hr.out (by show atP s (ruleFor r b).1 p = false; rw [Hf.out]; exact he)
        go_wp2_with fail
        go_ret2
        exact ⟨ret_sb HF.out.symm, b5⟩
      · have HA : Hid (linkS k l s ((i : Int), (p : Int), b) = repS s f2 (p : Int) (f1.size : Int)) := by
          have := linkS_at Hk.out Hin.out Hr.out (by show atP s (ruleFor r b).1 p = true; rw [Hf.out]; exact he)
          show _ = _
          rw [this]; dsimp only; rw [Hf.out]
        go_wp2_with fail
        refine (implReplaceAt s f2 p f1.size _ hs (by omega) (by omega) (by omega) (by omega) (by omega)).mono ?_
        rintro e w3 hR
        obtain ⟨rfl, m3, rfl⟩ := hR.fn
        clear hR
        generalize repS s f2 (p : Int) (f1.size : Int) = rr at *
        obtain ⟨r1, r2⟩ := rr
        go_wp2_with fail
        go_ret2
        exact ⟨ret_sb HA.out.symm, below_drewN b5 _⟩
    · have HF : Hid (linkS k l s ((i : Int), y, b) = (⟨#[]⟩, false)) := linkS_bad (.inr (.inl (by rw [inLB]; simp only [decide_eq_false_iff_not]; omega)))
      rw [show hasB s y 0 = false from decide_eq_false (by omega)]
      go_wp2_with fail
      go_ret2
      exact ⟨ret_sb HF.out.symm, b3⟩
  · have HF : Hid (linkS k l s (x, y, b) = (⟨#[]⟩, false)) := linkS_bad (.inr (.inl (by rw [inLB]; simp only [decide_eq_false_iff_not]; omega)))
    by_cases hx0 : x < 0
    · go_wp2_with fail
      go_ret2
      exact ⟨ret_sb HF.out.symm, b1⟩
    · have hxn : (n : Int) ≤ x := by omega
      go_wp2_with fail
      go_ret2
      exact ⟨ret_sb HF.out.symm, b1⟩
end Go.Proofs.YtddifhbjjiphiaaDoor
