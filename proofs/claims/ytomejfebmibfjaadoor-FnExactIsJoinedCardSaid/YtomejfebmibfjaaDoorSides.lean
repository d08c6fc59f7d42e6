/- The words behind a pair's two steps, and whether they have one reduced form: both SidesOf, both IsJoined. -/
import Derived.Test.YtomejfebmibfjaaDoorPair
import Derived.Test.YtomejfebmibfjaaDoorApply
import Derived.Test.YtomejfebmibfjaaDoorReduce
import Derived.Test.YtomejfebmibfjaaDoorSpecReduce
namespace Go.Proofs.YtomejfebmibfjaaDoor
open Go.RowKit

def sides0 : (ByteArray × ByteArray) × Bool := ((⟨#[]⟩, ⟨#[]⟩), false)
def sidesS (k : Int) (l : List R) (p : PA) : (ByteArray × ByteArray) × Bool :=
  if systemOk k l then (if (applyS k l p.1 p.2.1).2 && (applyS k l p.1 p.2.2).2 then (((applyS k l p.1 p.2.1).1, (applyS k l p.1 p.2.2).1), true) else sides0) else sides0
abbrev sidesV (r : (ByteArray × ByteArray) × Bool) : Value := .tuple #[.string r.1.1, .string r.1.2, .bool r.2]
theorem ret_s3 {a b : (ByteArray × ByteArray) × Bool} (h : a = b) : Ending.returned (sidesV a) = .returned (sidesV b) := by rw [h]
def joinedS (k : Int) (l : List R) (p : PA) : Bool :=
  if (sidesS k l p).2 then (formS k l (sidesS k l p).1.1 0).2 && (formS k l (sidesS k l p).1.2 0).2 && decide ((formS k l (sidesS k l p).1.1 0).1 = (formS k l (sidesS k l p).1.2 0).1) else false
theorem held7_keep {W W1 : World} {f g : Nat} {a1 a2 v0 v1 v2 v3 v4 : Value} {B : Nat} {w : World} (h : W.cell? ⟨f, 0, none⟩ = some a1 ∧ W.cell? ⟨f, 1, none⟩ = some a2 ∧ W.cell? ⟨g, 0, none⟩ = some v0 ∧ W.cell? ⟨g, 1, none⟩ = some v1 ∧ W.cell? ⟨g, 2, none⟩ = some v2 ∧ W.cell? ⟨g, 3, none⟩ = some v3 ∧ W.cell? ⟨g, 4, none⟩ = some v4 ∧ Below B w W) (hb : Below W.heap.size W W1) (hB : B ≤ w.heap.size) (h1 : f < w.heap.size) (h2 : g < w.heap.size) :
    W1.cell? ⟨f, 0, none⟩ = some a1 ∧ W1.cell? ⟨f, 1, none⟩ = some a2 ∧ W1.cell? ⟨g, 0, none⟩ = some v0 ∧ W1.cell? ⟨g, 1, none⟩ = some v1 ∧ W1.cell? ⟨g, 2, none⟩ = some v2 ∧ W1.cell? ⟨g, 3, none⟩ = some v3 ∧ W1.cell? ⟨g, 4, none⟩ = some v4 ∧ Below B w W1 := by
  have hs := h.2.2.2.2.2.2.2.size
  have l1 := Nat.lt_of_lt_of_le h1 hs
  have l2 := Nat.lt_of_lt_of_le h2 hs
  exact ⟨(hb.cell l1).trans h.1, (hb.cell l1).trans h.2.1, (hb.cell l2).trans h.2.2.1, (hb.cell l2).trans h.2.2.2.1, (hb.cell l2).trans h.2.2.2.2.1, (hb.cell l2).trans h.2.2.2.2.2.1, (hb.cell l2).trans h.2.2.2.2.2.2.1, h.2.2.2.2.2.2.2.trans (hb.mono (Nat.le_trans hB hs))⟩
theorem sidesS_size (k : Int) (l : List R) (p : PA) : (sidesS k l p).1.1.size ≤ 1048576 ∧ (sidesS k l p).1.2.size ≤ 1048576 := by
  have h1 := applyS_size k l p.1 p.2.1
  have h2 := applyS_size k l p.1 p.2.2
  unfold sidesS
  split
  · split
    · exact ⟨by dsimp only; omega, by dsimp only; omega⟩
    · exact ⟨Nat.zero_le _, Nat.zero_le _⟩
  · exact ⟨Nat.zero_le _, Nat.zero_le _⟩
set_option maxRecDepth 100000 in
set_option maxHeartbeats 1600000 in
theorem specSidesOf (k : Int) (A : Option Addr) (n c B : Nat) (l : List R) (p : PA) (w : World) (h : Own B w (.slice A n c) 2 n (rulesC l)) (hsm : smallR l) (hs : p.1.size ≤ 1048576) :
    Calls Tryd.prog 20 #[.agg #[.int .i64 k, .slice A n c], pairV p] w fun e w' => e = .returned (sidesV (sidesS k l p)) ∧ Below w.heap.size w w' := by
  obtain ⟨s, ⟨x, y⟩, x', y'⟩ := p
  have hs' : s.size ≤ 1048576 := hs
  have HO := Lib.hid h
  clear h hs
  go_enter Tryd.func20, Tryd.ntmps20
  go_wp2_with fail
  refine (specSystemOk k A n c B l _ (HO.out.below (bel2 _ _ _)) hsm).mono ?_
  rintro e w1 ⟨rfl, hb1⟩
  have B1 := Lib.hid (((Blk.new1 w _ _).alloc _).below hb1 (by simp; omega))
  have X1 := Lib.hid ((Blk.new2 w _ _ _).below hb1 (by simp))
  have b1 := (bel2 w _ _).trans (hb1.mono (by simp; omega))
  clear hb1
  obtain ⟨q0, q1, -, -, ql⟩ := B1.out.two
  obtain ⟨d0, d1, d2, d3, d4, -, -, -, -, -, xl⟩ := X1.out.five
  cases h1 : systemOk k l
  · have HF : Hid (sidesS k l (s, (x, y), (x', y')) = sides0) := by show _ = _; rw [sidesS, h1]; rfl
    clear h1
    go_wp2_with fail
    go_ret3
    exact ⟨ret_s3 HF.out.symm, b1⟩
  have Hk := Lib.hid h1
  clear h1
  go_wp2_with fail
  refine (specApplyStep k A n c B l s x y _ (HO.out.below b1) hsm hs').mono ?_
  rintro e w2 ⟨rfl, hb2⟩
  have b2 := b1.trans (hb2.mono b1.size)
  have B2 := Lib.hid (B1.out.below hb2 B1.out.lt)
  have X2 := Lib.hid (X1.out.below hb2 X1.out.lt)
  clear hb2 q0 q1 ql d0 d1 d2 d3 d4 xl B1 X1 b1
  obtain ⟨q0, q1, -, -, ql⟩ := B2.out.two
  obtain ⟨d0, d1, d2, d3, d4, -, -, -, -, -, xl⟩ := X2.out.five
  obtain ⟨ra, hra⟩ : ∃ r, applyS k l s (x, y) = r := ⟨_, rfl⟩
  have Hra := Lib.hid hra
  rw [hra]
  clear hra
  obtain ⟨a1, a2⟩ := ra
  go_wp2_with fail
  refine (specApplyStep k A n c B l s x' y' _ (HO.out.below b2) hsm hs').mono ?_
  rintro e w3 ⟨rfl, hb3⟩
  have b3 := b2.trans (hb3.mono b2.size)
  clear hb3 q0 q1 ql d0 d1 d2 d3 d4 xl B2 X2 b2
  obtain ⟨rb, hrb⟩ : ∃ r, applyS k l s (x', y') = r := ⟨_, rfl⟩
  have Hrb := Lib.hid hrb
  rw [hrb]
  clear hrb
  obtain ⟨b1', b2'⟩ := rb
  have HF : Hid (sidesS k l (s, (x, y), (x', y')) = if a2 && b2' then ((a1, b1'), true) else sides0) := by show _ = _; rw [sidesS, Hk.out]; simp only [Hra.out, Hrb.out, if_true]
  cases a2 <;> cases b2' <;> (go_wp2_with fail; go_ret3; exact ⟨ret_s3 HF.out.symm, b3⟩)
set_option maxRecDepth 100000 in
set_option maxHeartbeats 1600000 in
theorem specIsJoined (k : Int) (A : Option Addr) (n c B : Nat) (l : List R) (p : PA) (w : World) (h : Own B w (.slice A n c) 2 n (rulesC l)) (hsm : smallR l) (hs : p.1.size ≤ 1048576) :
    Calls Tryd.prog 23 #[.agg #[.int .i64 k, .slice A n c], pairV p] w fun e w' => e = .returned (.bool (joinedS k l p)) ∧ Below w.heap.size w w' := by
  obtain ⟨s, ⟨x, y⟩, x', y'⟩ := p
  have hs' : s.size ≤ 1048576 := hs
  have HO := Lib.hid h
  clear h hs
  go_enter Tryd.func23, Tryd.ntmps23
  go_wp2_with fail
  refine (specSidesOf k A n c B l (s, (x, y), (x', y')) _ (HO.out.below (bel2 _ _ _)) hsm hs').mono ?_
  rintro e w1 ⟨rfl, hb1⟩
  have B1 := Lib.hid (((Blk.new1 w _ _).alloc _).below hb1 (by simp; omega))
  have b1 := (bel2 w _ _).trans (hb1.mono (by simp; omega))
  clear hb1
  obtain ⟨q0, q1, -, -, ql⟩ := B1.out.two
  have hz := sidesS_size k l (s, (x, y), (x', y'))
  obtain ⟨rr, hrr⟩ : ∃ r, sidesS k l (s, (x, y), (x', y')) = r := ⟨_, rfl⟩
  have Hrr := Lib.hid hrr
  rw [hrr] at hz ⊢
  clear hrr
  obtain ⟨⟨u, v⟩, ok⟩ := rr
  obtain ⟨hu, hv⟩ := hz
  dsimp only at hu hv
  cases ok
  · have HF : Hid (joinedS k l (s, (x, y), (x', y')) = false) := by show _ = _; rw [joinedS, Hrr.out]; rfl
    go_wp2_with fail
    go_ret
    exact ⟨ret_bool HF.out.symm, b1⟩
  have HF : Hid (joinedS k l (s, (x, y), (x', y')) = ((formS k l u 0).2 && (formS k l v 0).2 && decide ((formS k l u 0).1 = (formS k l v 0).1))) := by show _ = _; rw [joinedS, Hrr.out]; rfl
  go_wp2_with fail
  refine (specNormalForm k A n c B l u _ (HO.out.below b1) hsm hu).mono ?_
  rintro e w2 ⟨rfl, hb2⟩
  have b2 := b1.trans (hb2.mono b1.size)
  have B2 := Lib.hid (B1.out.below hb2 B1.out.lt)
  clear hb2 q0 q1 ql B1 b1
  obtain ⟨q0, q1, -, -, ql⟩ := B2.out.two
  generalize formS k l u 0 = ra at *
  obtain ⟨a1, a2⟩ := ra
  go_wp2_with fail
  refine (specNormalForm k A n c B l v _ (HO.out.below b2) hsm hv).mono ?_
  rintro e w3 ⟨rfl, hb3⟩
  have b3 := b2.trans (hb3.mono b2.size)
  clear hb3 q0 q1 ql B2 b2
  generalize formS k l v 0 = rb at *
  obtain ⟨b1', b2'⟩ := rb
  dsimp only at HF
  cases a2
  · go_wp2_with fail
    go_ret
    exact ⟨ret_bool HF.out.symm, b3⟩
  · cases b2'
    · go_wp2_with fail
      go_ret
      exact ⟨ret_bool HF.out.symm, b3⟩
    · by_cases he : a1 = b1'
      · subst he
        go_wp2_with fail
        go_ret
        refine ⟨ret_bool ?_, b3⟩
        rw [HF.out]; simp
      · have hne := toList_ne he
        have HG := Lib.hid he
        clear he
        go_wp2_with fail
        go_ret
        refine ⟨ret_bool ?_, b3⟩
        rw [HF.out]; simp [HG.out]
set_option maxRecDepth 100000 in
set_option maxHeartbeats 1600000 in
theorem implSidesOf (k : Int) (A : Option Addr) (n c B : Nat) (l : List R) (p : PA) (w : World) (h : Own B w (.slice A n c) 2 n (rulesC l)) (hsm : smallR l) (hs : p.1.size ≤ 1048576) (hlet : Let w) :
    Calls Tryd.prog 22 #[.agg #[.int .i64 k, .slice A n c], pairV p] w fun e w' => e = .returned (sidesV (sidesS k l p)) ∧ Below w.heap.size w w' := by
  obtain ⟨s, ⟨x, y⟩, x', y'⟩ := p
  have hs' : s.size ≤ 1048576 := hs
  have HO := Lib.hid h
  have HL := Lib.hid (fun (w' : World) (hb : Below w.heap.size w w') => hlet.keep hb (Nat.le_refl _))
  clear h hlet hs
  go_enter Tryd.func22, Tryd.ntmps22
  go_wp2_with fail
  refine (implSystemOk k A n c B l _ (HO.out.below (bel2 _ _ _)) hsm (HL.out _ (bel2 _ _ _))).mono ?_
  rintro e w1 ⟨rfl, hb1⟩
  have B1 := Lib.hid (((Blk.new1 w _ _).alloc _).below hb1 (by simp; omega))
  have X1 := Lib.hid ((Blk.new2 w _ _ _).below hb1 (by simp))
  have b1 := (bel2 w _ _).trans (hb1.mono (by simp; omega))
  clear hb1
  obtain ⟨q0, q1, -, -, ql⟩ := B1.out.two
  obtain ⟨d0, d1, d2, d3, d4, -, -, -, -, -, xl⟩ := X1.out.five
  cases h1 : systemOk k l
  · have HF : Hid (sidesS k l (s, (x, y), (x', y')) = sides0) := by show _ = _; rw [sidesS, h1]; rfl
    clear h1
    go_wp2_with fail
    go_ret3
    exact ⟨ret_s3 HF.out.symm, b1⟩
  have Hk := Lib.hid h1
  clear h1
  go_wp2_with fail
  refine (implApplyStep k A n c B l s x y _ (HO.out.below b1) hsm hs' (HL.out _ b1)).mono ?_
  rintro e w2 ⟨rfl, hb2⟩
  have b2 := b1.trans (hb2.mono b1.size)
  have B2 := Lib.hid (B1.out.below hb2 B1.out.lt)
  have X2 := Lib.hid (X1.out.below hb2 X1.out.lt)
  clear hb2 q0 q1 ql d0 d1 d2 d3 d4 xl B1 X1 b1
  obtain ⟨q0, q1, -, -, ql⟩ := B2.out.two
  obtain ⟨d0, d1, d2, d3, d4, -, -, -, -, -, xl⟩ := X2.out.five
  obtain ⟨ra, hra⟩ : ∃ r, applyS k l s (x, y) = r := ⟨_, rfl⟩
  have Hra := Lib.hid hra
  rw [hra]
  clear hra
  obtain ⟨a1, a2⟩ := ra
  go_wp2_with fail
  refine (implApplyStep k A n c B l s x' y' _ (HO.out.below b2) hsm hs' (HL.out _ b2)).mono ?_
  rintro e w3 ⟨rfl, hb3⟩
  have b3 := b2.trans (hb3.mono b2.size)
  clear hb3 q0 q1 ql d0 d1 d2 d3 d4 xl B2 X2 b2
  obtain ⟨rb, hrb⟩ : ∃ r, applyS k l s (x', y') = r := ⟨_, rfl⟩
  have Hrb := Lib.hid hrb
  rw [hrb]
  clear hrb
  obtain ⟨b1', b2'⟩ := rb
  have HF : Hid (sidesS k l (s, (x, y), (x', y')) = if a2 && b2' then ((a1, b1'), true) else sides0) := by show _ = _; rw [sidesS, Hk.out]; simp only [Hra.out, Hrb.out, if_true]
  cases a2 <;> cases b2' <;> (go_wp2_with fail; go_ret3; exact ⟨ret_s3 HF.out.symm, b3⟩)
set_option maxRecDepth 100000 in
set_option maxHeartbeats 1600000 in
theorem implIsJoined (k : Int) (A : Option Addr) (n c B : Nat) (l : List R) (p : PA) (w : World) (h : Own B w (.slice A n c) 2 n (rulesC l)) (hsm : smallR l) (hs : p.1.size ≤ 1048576) (hlet : Let w) :
    Calls Tryd.prog 24 #[.agg #[.int .i64 k, .slice A n c], pairV p] w fun e w' => e = .returned (.bool (joinedS k l p)) ∧ Below w.heap.size w w' := by
  obtain ⟨s, ⟨x, y⟩, x', y'⟩ := p
  have hs' : s.size ≤ 1048576 := hs
  have HO := Lib.hid h
  have HL := Lib.hid (fun (w' : World) (hb : Below w.heap.size w w') => hlet.keep hb (Nat.le_refl _))
  clear h hlet hs
  go_enter Tryd.func24, Tryd.ntmps24
  go_wp2_with fail
  refine (implSidesOf k A n c B l (s, (x, y), (x', y')) _ (HO.out.below (bel2 _ _ _)) hsm hs' (HL.out _ (bel2 _ _ _))).mono ?_
  rintro e w1 ⟨rfl, hb1⟩
  have B1 := Lib.hid (((Blk.new1 w _ _).alloc _).below hb1 (by simp; omega))
  have b1 := (bel2 w _ _).trans (hb1.mono (by simp; omega))
  clear hb1
  obtain ⟨q0, q1, -, -, ql⟩ := B1.out.two
  have hz := sidesS_size k l (s, (x, y), (x', y'))
  obtain ⟨rr, hrr⟩ : ∃ r, sidesS k l (s, (x, y), (x', y')) = r := ⟨_, rfl⟩
  have Hrr := Lib.hid hrr
  rw [hrr] at hz ⊢
  clear hrr
  obtain ⟨⟨u, v⟩, ok⟩ := rr
  obtain ⟨hu, hv⟩ := hz
  dsimp only at hu hv
  cases ok
  · have HF : Hid (joinedS k l (s, (x, y), (x', y')) = false) := by show _ = _; rw [joinedS, Hrr.out]; rfl
    go_wp2_with fail
    go_ret
    exact ⟨ret_bool HF.out.symm, b1⟩
  have HF : Hid (joinedS k l (s, (x, y), (x', y')) = ((formS k l u 0).2 && (formS k l v 0).2 && decide ((formS k l u 0).1 = (formS k l v 0).1))) := by show _ = _; rw [joinedS, Hrr.out]; rfl
  go_wp2_with fail
  refine (implNormalForm k A n c B l u _ (HO.out.below b1) hsm hu (HL.out _ b1)).mono ?_
  rintro e w2 ⟨rfl, hb2⟩
  have b2 := b1.trans (hb2.mono b1.size)
  have B2 := Lib.hid (B1.out.below hb2 B1.out.lt)
  clear hb2 q0 q1 ql B1 b1
  obtain ⟨q0, q1, -, -, ql⟩ := B2.out.two
  generalize formS k l u 0 = ra at *
  obtain ⟨a1, a2⟩ := ra
  go_wp2_with fail
  refine (implNormalForm k A n c B l v _ (HO.out.below b2) hsm hv (HL.out _ b2)).mono ?_
  rintro e w3 ⟨rfl, hb3⟩
  have b3 := b2.trans (hb3.mono b2.size)
  clear hb3 q0 q1 ql B2 b2
  generalize formS k l v 0 = rb at *
  obtain ⟨b1', b2'⟩ := rb
  dsimp only at HF
  cases a2
  · go_wp2_with fail
    go_ret
    exact ⟨ret_bool HF.out.symm, b3⟩
  · cases b2'
    · go_wp2_with fail
      go_ret
      exact ⟨ret_bool HF.out.symm, b3⟩
    · by_cases he : a1 = b1'
      · subst he
        go_wp2_with fail
        go_ret
        refine ⟨ret_bool ?_, b3⟩
        rw [HF.out]; simp
      · have hne := toList_ne he
        have HG := Lib.hid he
        clear he
        go_wp2_with fail
        go_ret
        refine ⟨ret_bool ?_, b3⟩
        rw [HF.out]; simp [HG.out]
end Go.Proofs.YtomejfebmibfjaaDoor
