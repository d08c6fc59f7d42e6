/- One step: both ApplyStep, isStep, afterStep, beginsAt. -/
import Derived.Test.YtfkojahoaljiaaaDoorSpecSteps
import Derived.Test.YtfkojahoaljiaaaDoorReplace
import Derived.Test.YtfkojahoaljiaaaDoorHasRule
namespace Go.Proofs.YtfkojahoaljiaaaDoor
open Go.RowKit

/-- What ReplaceAt answers. -/
def repB (s b : ByteArray) (p l : Int) : Bool := decide (0 ≤ p ∧ 0 ≤ l ∧ p ≤ s.size ∧ l ≤ s.size - p ∧ (s.size : Int) - l + b.size ≤ 16)
def repS (s b : ByteArray) (p l : Int) : ByteArray × Bool := if repB s b p l then (s.extract 0 p.toNat ++ b ++ s.extract (p.toNat + l.toNat) s.size, true) else (⟨#[]⟩, false)
theorem RepRet.fn {s b : ByteArray} {p l : Int} {W w' : World} {e : Ending} (h : RepRet s b p l W e w') : e = .returned (.tuple #[.string (repS s b p l).1, .bool (repS s b p l).2]) ∧ ∃ m, w' = W.drewN m := by
  obtain ⟨r, ok, rfl, h1, h2⟩ := h
  refine ⟨?_, h2⟩
  rcases h1 with ⟨rfl, rfl, hn⟩ | ⟨rfl, hy, rfl⟩
  · have : repB s b p l = false := decide_eq_false hn
    rw [repS, this]; rfl
  · have : repB s b p l = true := decide_eq_true hy
    rw [repS, this]; rfl
def afterS (l : List R) (s : ByteArray) (x : ST) : ByteArray × Bool := match l[x.1.toNat]? with | some r => repS s r.2 x.2 r.1.size | none => (⟨#[]⟩, false)
theorem afterS_at {l : List R} {s : ByteArray} {x : ST} {r : R} (h : l[x.1.toNat]? = some r) : afterS l s x = repS s r.2 x.2 r.1.size := by rw [afterS, h]
def fitsB (l : List R) (s : ByteArray) (x : ST) : Bool := match l[x.1.toNat]? with | some r => atP s r.1 x.2.toNat | none => false
def inB (l : List R) (s : ByteArray) (x : ST) : Bool := decide (0 ≤ x.1 ∧ x.1 < l.length ∧ 0 ≤ x.2 ∧ x.2 < s.size)
def isStepB (l : List R) (s : ByteArray) (x : ST) : Bool := inB l s x && fitsB l s x
def applyS (k : Int) (l : List R) (s : ByteArray) (x : ST) : ByteArray × Bool := if rulesOk k l && isStepB l s x then afterS l s x else (⟨#[]⟩, false)

theorem mem_rowTo (l : List R) (s : ByteArray) (i : Nat) (x : ST) : ∀ j, j ≤ l.length → (x ∈ rowTo l s i j ↔ 0 ≤ x.1 ∧ x.1 < j ∧ x.2 = i ∧ fitsB l s x = true)
  | 0, _ => by simp [rowTo]; omega
  | j + 1, h => by
    have ih := mem_rowTo l s i x j (by omega)
    have hj : l[j]? = some l[j] := List.getElem?_eq_getElem (by omega)
    rw [rowTo_step l s i j _ hj, List.mem_append, ih]
    obtain ⟨a, b⟩ := x
    dsimp only at *
    constructor
    · rintro (⟨h1, h2, h3, h4⟩ | h1)
      · exact ⟨h1, by omega, h3, h4⟩
      · split at h1
        · rename_i hp
          rw [List.mem_singleton, Prod.mk.injEq] at h1
          obtain ⟨rfl, rfl⟩ := h1
          refine ⟨by omega, by omega, rfl, ?_⟩
          simp only [fitsB, Int.toNat_natCast, hj]; exact hp
        · cases h1
    · rintro ⟨h1, h2, rfl, h4⟩
      by_cases e : a = (j : Int)
      · right
        subst e
        simp only [fitsB, Int.toNat_natCast, hj] at h4
        rw [if_pos h4]; simp
      · left
        exact ⟨h1, by omega, rfl, h4⟩
theorem mem_rowsTo (l : List R) (s : ByteArray) (d : Int) (x : ST) : ∀ i, (x ∈ rowsTo l s d i ↔ 0 ≤ x.1 ∧ x.1 < l.length ∧ (∃ q, q < i ∧ x.2 = placeD d s.size q) ∧ fitsB l s x = true)
  | 0 => by simp [rowsTo]
  | i + 1 => by
    rw [rowsTo, List.mem_append, mem_rowsTo l s d x i, mem_rowTo l s _ x _ (Nat.le_refl _)]
    constructor
    · rintro (⟨h1, h2, ⟨q, hq, h3⟩, h4⟩ | ⟨h1, h2, h3, h4⟩)
      · exact ⟨h1, h2, ⟨q, by omega, h3⟩, h4⟩
      · exact ⟨h1, h2, ⟨i, by omega, h3⟩, h4⟩
    · rintro ⟨h1, h2, ⟨q, hq, h3⟩, h4⟩
      by_cases e : q = i
      · subst e; exact .inr ⟨h1, h2, h3, h4⟩
      · exact .inl ⟨h1, h2, ⟨q, by omega, h3⟩, h4⟩
theorem mem_stepsD (l : List R) (s : ByteArray) (d : Int) (x : ST) : x ∈ stepsD l s d ↔ isStepB l s x = true := by
  rw [stepsD, mem_rowsTo]
  simp only [isStepB, inB, Bool.and_eq_true, decide_eq_true_eq]
  constructor
  · rintro ⟨h1, h2, ⟨q, hq, h3⟩, h4⟩
    refine ⟨⟨h1, h2, by omega, ?_⟩, h4⟩
    rw [h3]; unfold placeD; split <;> omega
  · rintro ⟨⟨h1, h2, h3, h5⟩, h4⟩
    refine ⟨h1, h2, ?_, h4⟩
    by_cases hd : d = 1
    · exact ⟨s.size - 1 - x.2.toNat, by omega, by rw [placeD, if_pos hd]; omega⟩
    · exact ⟨x.2.toNat, by omega, by rw [placeD, if_neg hd]; omega⟩
theorem isStepB_parts {l : List R} {s : ByteArray} {x : ST} (h : isStepB l s x = true) : ∃ i j : Nat, x = ((i : Int), (j : Int)) ∧ i < l.length ∧ j < s.size ∧ ∃ r, l[i]? = some r ∧ atP s r.1 j = true := by
  simp only [isStepB, inB, Bool.and_eq_true, decide_eq_true_eq] at h
  obtain ⟨⟨h1, h2, h3, h4⟩, h5⟩ := h
  refine ⟨x.1.toNat, x.2.toNat, by ext <;> dsimp only <;> omega, by omega, by omega, l[x.1.toNat]'(by omega), List.getElem?_eq_getElem (by omega), ?_⟩
  rw [fitsB, List.getElem?_eq_getElem (by omega)] at h5
  exact h5

theorem run_eqlStep (u v s t : Int) (w : World) : (binOp .eql 55 (.agg #[.int .i64 u, .int .i64 v]) (.agg #[.int .i64 s, .int .i64 t])).run Tryd.prog w = .ok (.bool (decide (u = s ∧ v = t))) w := by
  rw [run_eql_struct, run_equalIn_agg w _ _ _ _ (by kernel_rfl) (by kernel_rfl)]
  simp [go_sem, Program.fieldsOf, Tryd.underlying55, Tryd.underlying3]
  by_cases h1 : u = s <;> by_cases h2 : v = t <;> simp [h1, h2]
theorem ret_sb {a b : ByteArray × Bool} (h : a = b) : Ending.returned (.tuple #[.string a.1, .bool a.2]) = .returned (.tuple #[.string b.1, .bool b.2]) := by rw [h]
theorem Own.rule_mem {B n : Nat} {w : World} {v : Value} {l : List R} (h : Own B w v 2 n (rulesC l)) {i : Nat} {r : R} (hr : l[i]? = some r) : i < n := by
  have := h.rlen; have := (List.getElem?_eq_some_iff.1 hr).1; omega

set_option maxHeartbeats 800000 in
theorem beginsAt_any (u v s : ByteArray) (i : Nat) (w : World) (hi : i ≤ s.size) :
    Calls Tryd.prog 68 #[.agg #[.string u, .string v], .string s, .int .i64 i] w fun e w' => e = .returned (.bool (atP s u i)) ∧ Below w.heap.size w w' := by
  have Hbe := Lib.hid (begS_at s u i hi)
  go_enter Tryd.func68, Tryd.ntmps68
  go_wp2_with fail
  obtain ⟨q0, q1, -, -, ql⟩ := (Blk.new1 w #[.string u, .string v] 70).two
  go_region_held3 (fun w' => w'.cell? ⟨w.heap.size, 0, none⟩ = some (.string u) ∧ w'.cell? ⟨w.heap.size, 1, none⟩ = some (.string v) ∧ Below w.heap.size w w')
    (first | exact ⟨q0, q1, (bel1 w _).drew⟩ | assumption)
    ((go_at_call 80; refine (beginsWith_any _ _ _).mono ?_; rw [Hbe.out]; rintro e w' ⟨rfl, rfl⟩))
  all_goals (go_wp2_with fail; go_ret; exact ⟨rfl, (bel1 w _).drew⟩)

theorem heldA_keep {W W1 : World} {g o q B : Nat} {a b : Value} {w : World} (h : W.cell? ⟨g, o, none⟩ = some a ∧ W.cell? ⟨g, q, none⟩ = some b ∧ Below B w W) (hb : Below W.heap.size W W1) (hB : B ≤ W.heap.size) (hg : g < B) :
    W1.cell? ⟨g, o, none⟩ = some a ∧ W1.cell? ⟨g, q, none⟩ = some b ∧ Below B w W1 :=
  ⟨(hb.cell (by show g < _; omega)).trans h.1, (hb.cell (by show g < _; omega)).trans h.2.1, h.2.2.trans (hb.mono hB)⟩

theorem held5_keep {W W1 : World} {p1 p2 p3 p4 p5 : Addr} {a1 a2 a3 a4 a5 : Value} {B : Nat} {w : World} (h : W.cell? p1 = some a1 ∧ W.cell? p2 = some a2 ∧ W.cell? p3 = some a3 ∧ W.cell? p4 = some a4 ∧ W.cell? p5 = some a5 ∧ Below B w W) (hb : Below W.heap.size W W1) (hB : B ≤ W.heap.size)
    (h1 : p1.block < W.heap.size) (h2 : p2.block < W.heap.size) (h3 : p3.block < W.heap.size) (h4 : p4.block < W.heap.size) (h5 : p5.block < W.heap.size) :
    W1.cell? p1 = some a1 ∧ W1.cell? p2 = some a2 ∧ W1.cell? p3 = some a3 ∧ W1.cell? p4 = some a4 ∧ W1.cell? p5 = some a5 ∧ Below B w W1 :=
  ⟨(hb.cell h1).trans h.1, (hb.cell h2).trans h.2.1, (hb.cell h3).trans h.2.2.1, (hb.cell h4).trans h.2.2.2.1, (hb.cell h5).trans h.2.2.2.2.1, h.2.2.2.2.2.trans (hb.mono hB)⟩
end Go.Proofs.YtfkojahoaljiaaaDoor
