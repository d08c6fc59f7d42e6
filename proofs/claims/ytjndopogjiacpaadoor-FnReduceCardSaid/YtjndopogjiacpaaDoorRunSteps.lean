/- Steps in order: both RunSteps. -/
import Derived.Test.YtjndopogjiacpaaDoorApply
namespace Go.Proofs.YtjndopogjiacpaaDoor
open Go.RowKit

def runS (k : Int) (l : List R) : ByteArray → List ST → ByteArray × Bool
  | s, [] => (s, true)
  | s, x :: xs => if (applyS k l s x).2 then runS k l (applyS k l s x).1 xs else (⟨#[]⟩, false)
def runsS (k : Int) (l : List R) (s : ByteArray) (xs : List ST) : ByteArray × Bool := if xs.length ≤ 1000 then runS k l s xs else (⟨#[]⟩, false)
theorem repS_size (s b : ByteArray) (p l : Int) : (repS s b p l).1.size ≤ 16 := by
  unfold repS
  split
  · rename_i h
    have h := of_decide_eq_true h
    simp only [ByteArray.size_append, ByteArray.size_extract]
    omega
  · show 0 ≤ 16; omega
theorem applyS_size (k : Int) (l : List R) (s : ByteArray) (x : ST) : (applyS k l s x).1.size ≤ 16 := by
  unfold applyS
  split
  · unfold afterS
    split
    · exact repS_size _ _ _ _
    · show 0 ≤ 16; omega
  · show 0 ≤ 16; omega
theorem drop_step {α : Type} (l : List α) (k : Nat) (r : α) (h : l[k]? = some r) : l.drop k = r :: l.drop (k + 1) := by
  have hk := (List.getElem?_eq_some_iff.1 h).1
  have he := (List.getElem?_eq_some_iff.1 h).2
  rw [List.drop_eq_getElem_cons hk, he]

set_option maxRecDepth 100000 in
set_option maxHeartbeats 1600000 in
theorem specRunSteps (k : Int) (A A' : Option Addr) (n c B m c' B' : Nat) (l : List R) (s : ByteArray) (xs : List ST) (w : World) (h : Own B w (.slice A n c) 2 n (rulesC l)) (hsm : smallR l) (hs : s.size ≤ 1048576) (hX : Own B' w (.slice A' m c') 2 m (stepsC xs)) :
    Calls Tryd.prog 45 #[.agg #[.int .i64 k, .slice A n c], .string s, .slice A' m c'] w fun e w' => e = .returned (.tuple #[.string (runsS k l s xs).1, .bool (runsS k l s xs).2]) ∧ Below w.heap.size w w' := by
  have HO := Lib.hid h
  have HX := Lib.hid hX
  have Hlen := Lib.hid hX.slen
  have hmax := hX.bound
  unfold maxLen at hmax
  clear h hX
  by_cases hbig : 1000 < m
  · have HF : Hid (runsS k l s xs = (⟨#[]⟩, false)) := by show _ = _; rw [runsS, if_neg (by rw [Hlen.out]; omega)]
    go_enter Tryd.func45, Tryd.ntmps45
    go_wp2_with fail
    go_ret2
    exact ⟨ret_sb HF.out.symm, bel1 _ _⟩
  have HY : Hid (runsS k l s xs = runS k l s xs) := by show _ = _; rw [runsS, if_pos (by rw [Hlen.out]; omega)]
  go_enter Tryd.func45, Tryd.ntmps45
  go_wp2_with fail
  go_loopw [1, 17] (fun v i wr => ∃ (j : Nat) (cur : ByteArray), j ≤ m ∧ i = .int .i64 j ∧ v = .string cur ∧ cur.size ≤ 1048576 ∧ Hid (runS k l s xs = runS k l cur (xs.drop j)) ∧ Hid (Blk wr w.heap.size 25 #[.int .i64 k, .slice A n c]) ∧ Below w.heap.size w wr) (fun _ i _ => m - (intOf i).toNat)
  case atStart => exact ⟨0, s, Nat.zero_le _, rfl, rfl, hs, rfl, Blk.new1 _ _ _, bel1 _ _⟩
  case round =>
    obtain ⟨j, cur, hj, rfl, rfl, hcs, HR, HB, hb⟩ := hrel
    have hbs := hb.size
    obtain ⟨q0, q1, -, -, ql⟩ := HB.out.two
    by_cases hlt : j < m
    · obtain ⟨g, off, c0, hv⟩ := HX.out.formR (by omega)
      obtain ⟨rfl, rfl⟩ : A' = some ⟨g, off, none⟩ ∧ c' = c0 := by injection hv with a _ b; exact ⟨a, b⟩
      clear hv
      obtain ⟨-, hgl, ⟨x, y⟩, hr, x0, x1, -, -⟩ := (HX.out.below hb).step hlt
      have Hst : Hid (runS k l cur (xs.drop j) = if (applyS k l cur (x, y)).2 then runS k l (applyS k l cur (x, y)).1 (xs.drop (j + 1)) else (⟨#[]⟩, false)) := by
        show _ = _
        rw [drop_step xs j _ hr, runS]
      have hasz := applyS_size k l cur (x, y)
      clear hr
      go_wp2_with fail
      have b2 := hb.alloc hbs (.cells #[.int .i64 x, .int .i64 y] 37)
      have HB2 := Lib.hid (HB.out.alloc (.cells #[.int .i64 x, .int .i64 y] 37))
      clear hb HB x0 x1 q0 q1 ql
      generalize wr.alloc (.cells #[.int .i64 x, .int .i64 y] 37) = w2 at *
      refine (specApplyStep k A n c B l cur x y _ (HO.out.below b2) hsm hcs).mono ?_
      rintro e w3 ⟨rfl, hb3⟩
      have b3 := b2.trans (hb3.mono b2.size)
      have HB3 := Lib.hid (HB2.out.below hb3 HB2.out.lt)
      clear hb3 HB2 b2
      generalize applyS k l cur (x, y) = rr at *
      obtain ⟨r1, r2⟩ := rr
      dsimp only at hasz
      cases r2
      · have HF : Hid (runsS k l s xs = (⟨#[]⟩, false)) := by show _ = _; rw [HY.out, HR.out, Hst.out]; rfl
        go_wp2_with fail
        go_ret2
        exact ⟨ret_sb HF.out.symm, b3⟩
      · have HR2 : Hid (runS k l s xs = runS k l r1 (xs.drop (j + 1))) := by show _ = _; rw [HR.out, Hst.out]; rfl
        go_wp2_with fail
        go_roundw
        case rel => exact ⟨j + 1, r1, by omega, by go_num, rfl, by omega, HR2, HB3, b3⟩
        case measure => simp [intOf]; omega
    · have HF : Hid (runsS k l s xs = (cur, true)) := by
        show _ = _
        rw [HY.out, HR.out, List.drop_of_length_le (by rw [Hlen.out]; omega), runS]
      go_wp2_with fail
      go_ret2
      exact ⟨ret_sb HF.out.symm, hb⟩

set_option maxRecDepth 100000 in
set_option maxHeartbeats 1600000 in
theorem implRunSteps (k : Int) (A A' : Option Addr) (n c B m c' B' : Nat) (l : List R) (s : ByteArray) (xs : List ST) (w : World) (h : Own B w (.slice A n c) 2 n (rulesC l)) (hsm : smallR l) (hs : s.size ≤ 1048576) (hX : Own B' w (.slice A' m c') 2 m (stepsC xs)) (hlet : Let w) :
    Calls Tryd.prog 21 #[.agg #[.int .i64 k, .slice A n c], .string s, .slice A' m c'] w fun e w' => e = .returned (.tuple #[.string (runsS k l s xs).1, .bool (runsS k l s xs).2]) ∧ Below w.heap.size w w' := by
  have HO := Lib.hid h
  have HX := Lib.hid hX
  have Hlen := Lib.hid hX.slen
  have hmax := hX.bound
  unfold maxLen at hmax
  have HL := Lib.hid (fun (w' : World) (hb : Below w.heap.size w w') => hlet.keep hb (Nat.le_refl _))
  clear hlet
  clear h hX
  by_cases hbig : 1000 < m
  · have HF : Hid (runsS k l s xs = (⟨#[]⟩, false)) := by show _ = _; rw [runsS, if_neg (by rw [Hlen.out]; omega)]
    go_enter Tryd.func21, Tryd.ntmps21
    go_wp2_with fail
    go_ret2
    exact ⟨ret_sb HF.out.symm, bel1 _ _⟩
  have HY : Hid (runsS k l s xs = runS k l s xs) := by show _ = _; rw [runsS, if_pos (by rw [Hlen.out]; omega)]
  go_enter Tryd.func21, Tryd.ntmps21
  go_wp2_with fail
  go_loopw [8, 19] (fun v i wr => ∃ (j : Nat) (cur : ByteArray), j ≤ m ∧ i = .int .i64 j ∧ v = .string cur ∧ cur.size ≤ 1048576 ∧ Hid (runS k l s xs = runS k l cur (xs.drop j)) ∧ Hid (Blk wr w.heap.size 25 #[.int .i64 k, .slice A n c]) ∧ Below w.heap.size w wr) (fun _ i _ => m - (intOf i).toNat)
  case atStart => exact ⟨0, s, Nat.zero_le _, rfl, rfl, hs, rfl, Blk.new1 _ _ _, bel1 _ _⟩
  case round =>
    obtain ⟨j, cur, hj, rfl, rfl, hcs, HR, HB, hb⟩ := hrel
    have hbs := hb.size
    obtain ⟨q0, q1, -, -, ql⟩ := HB.out.two
    by_cases hlt : j < m
    · obtain ⟨g, off, c0, hv⟩ := HX.out.formR (by omega)
      obtain ⟨rfl, rfl⟩ : A' = some ⟨g, off, none⟩ ∧ c' = c0 := by injection hv with a _ b; exact ⟨a, b⟩
      clear hv
      obtain ⟨-, hgl, ⟨x, y⟩, hr, x0, x1, -, -⟩ := (HX.out.below hb).step hlt
      have Hst : Hid (runS k l cur (xs.drop j) = if (applyS k l cur (x, y)).2 then runS k l (applyS k l cur (x, y)).1 (xs.drop (j + 1)) else (⟨#[]⟩, false)) := by
        show _ = _
        rw [drop_step xs j _ hr, runS]
      have hasz := applyS_size k l cur (x, y)
      clear hr
      go_wp2_with fail
      have b2 := hb.alloc hbs (.cells #[.int .i64 x, .int .i64 y] 37)
      have HB2 := Lib.hid (HB.out.alloc (.cells #[.int .i64 x, .int .i64 y] 37))
      clear hb HB x0 x1 q0 q1 ql
      generalize wr.alloc (.cells #[.int .i64 x, .int .i64 y] 37) = w2 at *
      refine (implApplyStep k A n c B l cur x y _ (HO.out.below b2) hsm hcs (HL.out _ b2)).mono ?_
      rintro e w3 ⟨rfl, hb3⟩
      have b3 := b2.trans (hb3.mono b2.size)
      have HB3 := Lib.hid (HB2.out.below hb3 HB2.out.lt)
      clear hb3 HB2 b2
      generalize applyS k l cur (x, y) = rr at *
      obtain ⟨r1, r2⟩ := rr
      dsimp only at hasz
      cases r2
      · have HF : Hid (runsS k l s xs = (⟨#[]⟩, false)) := by show _ = _; rw [HY.out, HR.out, Hst.out]; rfl
        go_wp2_with fail
        go_ret2
        exact ⟨ret_sb HF.out.symm, b3⟩
      · have HR2 : Hid (runS k l s xs = runS k l r1 (xs.drop (j + 1))) := by show _ = _; rw [HR.out, Hst.out]; rfl
        go_wp2_with fail
        go_roundw
        case rel => exact ⟨j + 1, r1, by omega, by go_num, rfl, by omega, HR2, HB3, b3⟩
        case measure => simp [intOf]; omega
    · have HF : Hid (runsS k l s xs = (cur, true)) := by
        show _ = _
        rw [HY.out, HR.out, List.drop_of_length_le (by rw [Hlen.out]; omega), runS]
      go_wp2_with fail
      go_ret2
      exact ⟨ret_sb HF.out.symm, hb⟩
end Go.Proofs.YtjndopogjiacpaaDoor
