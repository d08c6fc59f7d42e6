/- One step: both ApplyStep, isStep, afterStep, beginsAt. -/
import Derived.Test.YtddifhbjjiphiaaDoorSpecSteps
import Derived.Test.YtddifhbjjiphiaaDoorReplace
import Derived.Test.YtddifhbjjiphiaaDoorHasRule
namespace Go.Proofs.YtddifhbjjiphiaaDoor
open Go.RowKit

/-- What ReplaceAt answers. -/
def repB (s b : ByteArray) (p l : Int) : Bool := decide (0 ≤ p ∧ 0 ≤ l ∧ p ≤ s.size ∧ l ≤ s.size - p ∧ (s.size : Int) - l + b.size ≤ 16)
def repS (s b : ByteArray) (p l : Int) : ByteArray × Bool := if repB s b p l then (s.extract 0 p.toNat ++ b ++ s.extract (p.toNat + l.toNat) s.size, true) else (⟨#[]⟩, false)
theorem RepRet.fn {s b : ByteArray} {p l : Int} {W w' : World} {e : Ending} (h : RepRet s b p l W e w') : e = .returned (.tuple #[.string (repS s b p l).1, .bool (repS s b p l).2]) ∧ ∃ m, w' = W.drewN m := by
  obtain ⟨r, ok, rfl, h1, h2⟩ := h
  refine ⟨?_, h2⟩
  rcases h1 with ⟨rfl, rfl, hn⟩ | ⟨rfl, hy, rfl⟩
  · have : repB s b p l = false := decide_eq_false hn
    rw [repS, this]; rfl
  · have : repB s b p l = true := decide_eq_true hy
    rw [repS, this]; rfl
def afterS (l : List R) (s : ByteArray) (x : ST) : ByteArray × Bool := match l[x.1.toNat]? with | some r => repS s r.2 x.2 r.1.size | none => (⟨#[]⟩, false)
theorem afterS_at {l : List R} {s : ByteArray} {x : ST} {r : R} (h : l[x.1.toNat]? = some r) : afterS l s x = repS s r.2 x.2 r.1.size := by rw [afterS, h]
def fitsB (l : List R) (s : ByteArray) (x : ST) : Bool := match l[x.1.toNat]? with | some r => atP s r.1 x.2.toNat | none => false
def inB (l : List R) (s : ByteArray) (x : ST) : Bool := decide (0 ≤ x.1 ∧ x.1 < l.length ∧ 0 ≤ x.2 ∧ x.2 < s.size)
def isStepB (l : List R) (s : ByteArray) (x : ST) : Bool := inB l s x && fitsB l s x
def applyS (k : Int) (l : List R) (s : ByteArray) (x : ST) : ByteArray × Bool := if rulesOk k l && isStepB l s x then afterS l s x else (⟨#[]⟩, false)

theorem mem_rowTo (l : List R) (s : ByteArray) (i : Nat) (x : ST) : ∀ j, j ≤ l.length → (x ∈ rowTo l s i j ↔ 0 ≤ x.1 ∧ x.1 < j ∧ x.2 = i ∧ fitsB l s x = true)
  | 0, _ => by simp [rowTo]; omega
  | j + 1, h => by
    have ih := mem_rowTo l s i x j (by omega)
    have hj : l[j]? = some l[j] := List.getElem?_eq_getElem (by omega)
    rw [rowTo_step l s i j _ hj, List.mem_append, ih]
    obtain ⟨a, b⟩ := x
    dsimp only at *
    constructor
    · rintro (⟨h1, h2, h3, h4⟩ | h1)
      · exact ⟨h1, by omega, h3, h4⟩
      · split at h1
        · rename_i hp
          rw [List.mem_singleton, Prod.mk.injEq] at h1
          obtain ⟨rfl, rfl⟩ := h1
          refine ⟨by omega, by omega, rfl, ?_⟩
          simp only [fitsB, Int.toNat_natCast, hj]; exact hp
        · cases h1
    · rintro ⟨h1, h2, rfl, h4⟩
      by_cases e : a = (j : Int)
      · right
        subst e
        simp only [fitsB, Int.toNat_natCast, hj] at h4
        rw [if_pos h4]; simp
      · left
        exact ⟨h1, by omega, rfl, h4⟩
theorem mem_rowsTo (l : List R) (s : ByteArray) (d : Int) (x : ST) : ∀ i, (x ∈ rowsTo l s d i ↔ 0 ≤ x.1 ∧ x.1 < l.length ∧ (∃ q, q < i ∧ x.2 = placeD d s.size q) ∧ fitsB l s x = true)
  | 0 => by simp [rowsTo]
  | i + 1 => by
    rw [rowsTo, List.mem_append, mem_rowsTo l s d x i, mem_rowTo l s _ x _ (Nat.le_refl _)]
    constructor
    · rintro (⟨h1, h2, ⟨q, hq, h3⟩, h4⟩ | ⟨h1, h2, h3, h4⟩)
      · exact ⟨h1, h2, ⟨q, by omega, h3⟩, h4⟩
      · exact ⟨h1, h2, ⟨i, by omega, h3⟩, h4⟩
    · rintro ⟨h1, h2, ⟨q, hq, h3⟩, h4⟩
      by_cases e : q = i
      · subst e; exact .inr ⟨h1, h2, h3, h4⟩
      · exact .inl ⟨h1, h2, ⟨q, by omega, h3⟩, h4⟩
theorem mem_stepsD (l : List R) (s : ByteArray) (d : Int) (x : ST) : x ∈ stepsD l s d ↔ isStepB l s x = true := by
  rw [stepsD, mem_rowsTo]
  simp only [isStepB, inB, Bool.and_eq_true, decide_eq_true_eq]
  constructor
  · rintro ⟨h1, h2, ⟨q, hq, h3⟩, h4⟩
    refine ⟨⟨h1, h2, by omega, ?_⟩, h4⟩
    rw [h3]; unfold placeD; split <;> omega
  · rintro ⟨⟨h1, h2, h3, h5⟩, h4⟩
    refine ⟨h1, h2, ?_, h4⟩
    by_cases hd : d = 1
    · exact ⟨s.size - 1 - x.2.toNat, by omega, by rw [placeD, if_pos hd]; omega⟩
    · exact ⟨x.2.toNat, by omega, by rw [placeD, if_neg hd]; omega⟩
theorem isStepB_parts {l : List R} {s : ByteArray} {x : ST} (h : isStepB l s x = true) : ∃ i j : Nat, x = ((i : Int), (j : Int)) ∧ i < l.length ∧ j < s.size ∧ ∃ r, l[i]? = some r ∧ atP s r.1 j = true := by
  simp only [isStepB, inB, Bool.and_eq_true, decide_eq_true_eq] at h
  obtain ⟨⟨h1, h2, h3, h4⟩, h5⟩ := h
  refine ⟨x.1.toNat, x.2.toNat, by ext <;> dsimp only <;> omega, by omega, by omega, l[x.1.toNat]'(by omega), List.getElem?_eq_getElem (by omega), ?_⟩
  rw [fitsB, List.getElem?_eq_getElem (by omega)] at h5
  exact h5

theorem run_eqlStep (u v s t : Int) (w : World) : (binOp .eql 102 (.agg #[.int .i64 u, .int .i64 v]) (.agg #[.int .i64 s, .int .i64 t])).run Tryd.prog w = .ok (.bool (decide (u = s ∧ v = t))) w := by
  rw [run_eql_struct, run_equalIn_agg w _ _ _ _ (by kernel_rfl) (by kernel_rfl)]
  simp [go_sem, Program.fieldsOf, Tryd.underlying102, Tryd.underlying3]
  by_cases h1 : u = s <;> by_cases h2 : v = t <;> simp [h1, h2]
theorem ret_sb {a b : ByteArray × Bool} (h : a = b) : Ending.returned (.tuple #[.string a.1, .bool a.2]) = .returned (.tuple #[.string b.1, .bool b.2]) := by rw [h]
theorem Own.rule_mem {B n : Nat} {w : World} {v : Value} {l : List R} (h : Own B w v 2 n (rulesC l)) {i : Nat} {r : R} (hr : l[i]? = some r) : i < n := by
  have := h.rlen; have := (List.getElem?_eq_some_iff.1 hr).1; omega

set_option maxRecDepth 100000 in
set_option maxHeartbeats 1600000 in
theorem specApplyStep (k : Int) (A : Option Addr) (n c B : Nat) (l : List R) (s : ByteArray) (x y : Int) (w : World) (h : Own B w (.slice A n c) 2 n (rulesC l)) (hsm : smallR l) (hs : s.size ≤ 1048576) :
    Calls Tryd.prog 79 #[.agg #[.int .i64 k, .slice A n c], .string s, .agg #[.int .i64 x, .int .i64 y]] w fun e w' => e = .returned (.tuple #[.string (applyS k l s (x, y)).1, .bool (applyS k l s (x, y)).2]) ∧ Below w.heap.size w w' := by
  have HO := Lib.hid h
  clear h
  go_enter Tryd.func79, Tryd.ntmps79
  go_wp2_with fail
  refine (specStepsOf k A n c B l s _ (HO.out.below (bel2 _ _ _)) hsm hs).mono ?_
  rintro e w1 ⟨v, rfl, o1, hb1⟩
  have b1 := (bel2 w _ _).trans (hb1.mono (by simp; omega))
  have HB1 := Lib.hid (((Blk.new1 w _ _).alloc _).below hb1 (by simp; omega))
  have HX1 := Lib.hid ((Blk.new2 w _ _ _).below hb1 (by simp))
  have HO1 := Lib.hid ((HO.out.below (bel2 _ _ _)).below hb1)
  obtain ⟨A1, c1, rfl⟩ := o1.form
  have O1 := Lib.hid o1
  have hmax := o1.bound
  unfold maxLen at hmax
  clear hb1 o1
  generalize hL : stepsOf k l s = L at *
  have HL := Lib.hid hL
  clear hL
  generalize hm : L.length = m at *
  have Hm := Lib.hid hm
  clear hm
  go_wp2_with fail
  go_loopw [15] (fun i wr => ∃ j : Nat, j ≤ m ∧ i = .int .i64 j ∧ Hid ((x, y) ∉ L.take j) ∧ Below w1.heap.size w1 wr) (fun i _ => m - (intOf i).toNat)
  case atStart => exact ⟨0, Nat.zero_le _, rfl, by show _ ∉ _; simp, Below.refl _ _⟩
  case round =>
    obtain ⟨j, hj, rfl, HN, hb⟩ := hrel
    have hbs := hb.size
    obtain ⟨q0, q1, -, -, ql⟩ := (HB1.out.below hb HB1.out.lt).two
    obtain ⟨z0, z1, -, -, zl⟩ := (HX1.out.below hb HX1.out.lt).two
    by_cases hlt : j < m
    · obtain ⟨g, off, c0, hv⟩ := O1.out.formR (by omega)
      obtain ⟨rfl, rfl⟩ : A1 = some ⟨g, off, none⟩ ∧ c1 = c0 := by injection hv with a _ b; exact ⟨a, b⟩
      clear hv
      obtain ⟨-, hgl, ⟨u, v⟩, hr, x0, x1, -, -⟩ := (O1.out.below hb).step hlt
      have Hr := Lib.hid hr
      clear hr
      cases hd : decide (x = u ∧ y = v)
      · have heq := fun w' => (run_eqlStep x y u v w').trans (by rw [hd])
        have HN2 : Hid ((x, y) ∉ L.take (j + 1)) := by
          show _ ∉ _
          rw [take_step L j _ Hr.out, List.mem_append, List.mem_singleton, Prod.mk.injEq]
          rintro (h | h)
          · exact HN.out h
          · exact absurd h (of_decide_eq_false hd)
        have hb2 := Lib.hid (fun o => hb.alloc hbs o)
        clear hd hb
        go_wp2_with fail
        go_roundw
        case rel => exact ⟨j + 1, by omega, by go_num, HN2, hb2.out _⟩
        case measure => simp [intOf]; omega
      · have heq := fun w' => (run_eqlStep x y u v w').trans (by rw [hd])
        obtain ⟨rfl, rfl⟩ := of_decide_eq_true hd
        have hmem : (x, y) ∈ L := List.mem_of_getElem? Hr.out
        rw [← HL.out, stepsOf] at hmem
        have hk : rulesOk k l = true := by
          by_cases hk : rulesOk k l = true
          · exact hk
          · rw [if_neg hk] at hmem; cases hmem
        rw [if_pos hk, mem_stepsD] at hmem
        have Ha : applyS k l s (x, y) = afterS l s (x, y) := by rw [applyS, hk, hmem]; rfl
        obtain ⟨i, p, e, hi, hp, r, hr2, -⟩ := isStepB_parts hmem
        obtain ⟨rfl, rfl⟩ : x = (i : Int) ∧ y = (p : Int) := by injection e with a b; exact ⟨a, b⟩
        rw [afterS_at (r := r) (by simpa using hr2)] at Ha
        have HA := Lib.hid Ha
        have hin : i < n := by rw [← HO.out.rlen]; exact hi
        have hrs := rulesOk_mem hk (List.mem_of_getElem? hr2)
        obtain ⟨g2, off2, c2, hv2⟩ := HO1.out.formR (by omega)
        obtain ⟨rfl, rfl⟩ : A = some ⟨g2, off2, none⟩ ∧ c = c2 := by injection hv2 with a _ b; exact ⟨a, b⟩
        clear hv2
        obtain ⟨-, hgl2, ⟨a, b⟩, hr3, y0, y1, -, -⟩ := (HO1.out.below hb).rule hin
        obtain rfl : r = (a, b) := by rw [hr2] at hr3; exact Option.some.inj hr3
        have hnmax := HO1.out.bound
        unfold maxLen at hnmax
        have hb2 := Lib.hid (fun o1 o2 => b1.trans (((hb.alloc hbs o1).alloc (by simp; omega) o2).mono b1.size))
        clear hd hmem hr2 hr3 Ha e hb
        dsimp only at hrs
        go_wp2_with fail
        refine (specReplaceAt s b p a.size _ hs (by omega) (by omega) (by omega) (by omega) (by omega)).mono ?_
        rintro e w3 hR
        obtain ⟨rfl, m3, rfl⟩ := hR.fn
        have HA2 : Hid (applyS k l s ((i : Int), (p : Int)) = repS s b p a.size) := HA.out
        clear hR HA
        generalize repS s b (p : Int) (a.size : Int) = rr at *
        obtain ⟨r1, r2⟩ := rr
        go_wp2_with fail
        go_ret2
        exact ⟨ret_sb HA2.out.symm, below_drewN (hb2.out _ _) _⟩
    · obtain rfl : j = m := by omega
      have HF : Hid (applyS k l s (x, y) = (⟨#[]⟩, false)) := by
        show _ = _
        have h1 := HN.out
        rw [List.take_of_length_le (by rw [Hm.out]; omega), ← HL.out, stepsOf] at h1
        rw [applyS]
        by_cases hk : rulesOk k l = true
        · rw [if_pos hk, mem_stepsD] at h1
          rw [if_neg (by simp [hk, h1])]
        · rw [if_neg (by simp [hk])]
      have hb2 := b1.trans (hb.mono b1.size)
      clear hb
      go_wp2_with fail
      go_ret2
      exact ⟨ret_sb HF.out.symm, hb2⟩

set_option maxHeartbeats 800000 in
theorem beginsAt_any (u v s : ByteArray) (i : Nat) (w : World) (hi : i ≤ s.size) :
    Calls Tryd.prog 43 #[.agg #[.string u, .string v], .string s, .int .i64 i] w fun e w' => e = .returned (.bool (atP s u i)) ∧ Below w.heap.size w w' := by
  have Hbe := Lib.hid (begS_at s u i hi)
  go_enter Tryd.func43, Tryd.ntmps43
  go_wp2_with fail
  obtain ⟨q0, q1, -, -, ql⟩ := (Blk.new1 w #[.string u, .string v] 63).two
  go_region_held3 (fun w' => w'.cell? ⟨w.heap.size, 0, none⟩ = some (.string u) ∧ w'.cell? ⟨w.heap.size, 1, none⟩ = some (.string v) ∧ Below w.heap.size w w')
    (first | exact ⟨q0, q1, (bel1 w _).drew⟩ | assumption)
    ((go_at_call 67; refine (beginsWith_any _ _ _).mono ?_; rw [Hbe.out]; rintro e w' ⟨rfl, rfl⟩))
  all_goals (go_wp2_with fail; go_ret; exact ⟨rfl, (bel1 w _).drew⟩)

theorem heldA_keep {W W1 : World} {g o q B : Nat} {a b : Value} {w : World} (h : W.cell? ⟨g, o, none⟩ = some a ∧ W.cell? ⟨g, q, none⟩ = some b ∧ Below B w W) (hb : Below W.heap.size W W1) (hB : B ≤ W.heap.size) (hg : g < B) :
    W1.cell? ⟨g, o, none⟩ = some a ∧ W1.cell? ⟨g, q, none⟩ = some b ∧ Below B w W1 :=
  ⟨(hb.cell (by show g < _; omega)).trans h.1, (hb.cell (by show g < _; omega)).trans h.2.1, h.2.2.trans (hb.mono hB)⟩

set_option maxRecDepth 100000 in
set_option maxHeartbeats 800000 in
/-- afterStep, where the rule is there. -/
theorem afterStep_any (k : Int) (A : Option Addr) (n c B : Nat) (l : List R) (s : ByteArray) (i p : Nat) (r : R) (w : World) (h : Own B w (.slice A n c) 2 n (rulesC l)) (hr : l[i]? = some r) (hrs : r.1.size ≤ 1048576 ∧ r.2.size ≤ 1048576) (hs : s.size ≤ 1048576) (hp : p ≤ 1048576) :
    Calls Tryd.prog 84 #[.agg #[.int .i64 k, .slice A n c], .string s, .agg #[.int .i64 i, .int .i64 p]] w fun e w' => e = .returned (.tuple #[.string (afterS l s (i, p)).1, .bool (afterS l s (i, p)).2]) ∧ Below w.heap.size w w' := by
  have hmax := h.bound
  have hin := h.rule_mem hr
  unfold maxLen at hmax
  have Ha : afterS l s ((i : Int), (p : Int)) = repS s r.2 p r.1.size := afterS_at (by simpa using hr)
  obtain ⟨g, off, c0, hv⟩ := h.formR (by omega)
  obtain ⟨rfl, rfl⟩ : A = some ⟨g, off, none⟩ ∧ c = c0 := by injection hv with a _ b; exact ⟨a, b⟩
  clear hv
  have h2 := h.below (bel2 w (.cells #[.int .i64 k, .slice (some ⟨g, off, none⟩) n c] 32) (.cells #[.int .i64 i, .int .i64 p] 102))
  obtain ⟨-, hgl, ⟨a, b⟩, hr3, y0, y1, -, -⟩ := h2.rule hin
  obtain rfl : r = (a, b) := by rw [hr] at hr3; exact Option.some.inj hr3
  have HA2 : Hid (afterS l s ((i : Int), (p : Int)) = repS s b p a.size) := Ha
  dsimp only at hrs
  clear Ha hr3 h2 h hr
  go_enter Tryd.func84, Tryd.ntmps84
  go_wp2_with fail
  refine (implReplaceAt s b p a.size _ hs (by omega) (by omega) (by omega) (by omega) (by omega)).mono ?_
  rintro e w3 hR
  obtain ⟨rfl, m3, rfl⟩ := hR.fn
  clear hR
  generalize repS s b (p : Int) (a.size : Int) = rr at *
  obtain ⟨r1, r2⟩ := rr
  go_wp2_with fail
  go_ret2
  exact ⟨ret_sb HA2.out.symm, below_drewN (bel3 _ _ _ _) _⟩

theorem held5_keep {W W1 : World} {p1 p2 p3 p4 p5 : Addr} {a1 a2 a3 a4 a5 : Value} {B : Nat} {w : World} (h : W.cell? p1 = some a1 ∧ W.cell? p2 = some a2 ∧ W.cell? p3 = some a3 ∧ W.cell? p4 = some a4 ∧ W.cell? p5 = some a5 ∧ Below B w W) (hb : Below W.heap.size W W1) (hB : B ≤ W.heap.size)
    (h1 : p1.block < W.heap.size) (h2 : p2.block < W.heap.size) (h3 : p3.block < W.heap.size) (h4 : p4.block < W.heap.size) (h5 : p5.block < W.heap.size) :
    W1.cell? p1 = some a1 ∧ W1.cell? p2 = some a2 ∧ W1.cell? p3 = some a3 ∧ W1.cell? p4 = some a4 ∧ W1.cell? p5 = some a5 ∧ Below B w W1 :=
  ⟨(hb.cell h1).trans h.1, (hb.cell h2).trans h.2.1, (hb.cell h3).trans h.2.2.1, (hb.cell h4).trans h.2.2.2.1, (hb.cell h5).trans h.2.2.2.2.1, h.2.2.2.2.2.trans (hb.mono hB)⟩
end Go.Proofs.YtddifhbjjiphiaaDoor
