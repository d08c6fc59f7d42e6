import Derived.Test.YtlehdmflnglipaaDoorRows
import Derived.WalkKit
import Derived.WalkSpells
import Derived.WalkLawsBesides
import Derived.ProofKit
import Derived.OpenShut
import Derived.JoinedCond
import Derived.Lib.Hide
namespace Go.Proofs.YtlehdmflnglipaaDoor
open Go.RowKit Go.WideShapes Go.ChangeShapes

theorem ret_bool {a b : Bool} (h : a = b) : Ending.returned (.bool a) = .returned (.bool b) := by rw [h]

theorem take_snoc (s : ByteArray) (k : Nat) (h : k < s.size) : s.data.toList.take (k + 1) = s.data.toList.take k ++ [s[k]] := by
  rw [List.take_succ_eq_append_getElem (by simpa using h)]; rfl
theorem get_mem (s : ByteArray) (k : Nat) (h : k < s.size) : s[k] ∈ s.data.toList := by
  have : s.data.toList[k]'(by simpa using h) = s[k] := rfl
  rw [← this]; exact List.getElem_mem _
theorem all_no (s : ByteArray) (k : Nat) (h : k < s.size) (p : UInt8 → Bool) (hp : p s[k] = false) : s.data.toList.all p = false := by
  rw [List.all_eq_false]; exact ⟨_, get_mem s k h, by simp [hp]⟩
theorem take_all (s : ByteArray) (k : Nat) (h : ¬ k < s.size) : s.data.toList.take k = s.data.toList := List.take_of_length_le (by simp; omega)
theorem toList_data (s : ByteArray) : s.toList = s.data.toList := ByteArray.toList_eq s
theorem isEmpty_no {p : ByteArray} (hne : 0 < p.size) : p.toList.isEmpty = false := by
  rw [toList_data]
  have : p.data.toList.length = p.size := by simp
  generalize p.data.toList = l at this
  cases l with
  | nil => simp at this; omega
  | cons a l => rfl
theorem size_zero {p : ByteArray} (h : p.size = 0) : p = ⟨#[]⟩ := by rcases p with ⟨⟨l⟩⟩; simp [ByteArray.size] at h; subst h; rfl
theorem iter_below (w : World) (s : ByteArray) (k : Nat) : Below w.heap.size w (w.iter s k) := (Below.refl _ w).alloc (Nat.le_refl _) _

theorem ret_str {a b : ByteArray} (h : a = b) : Ending.returned (.string a) = .returned (.string b) := by rw [h]

def isDig (c : UInt8) : Bool := decide (48 ≤ c.toNat) && decide (c.toNat ≤ 57)
def digits (l : List UInt8) : Bool := l.all isDig && !l.isEmpty

theorem isDig_yes {c : UInt8} (h : isDig c = true) : 48 ≤ (c.toNat : Int) ∧ (c.toNat : Int) ≤ 57 := by
  simp only [isDig, Bool.and_eq_true, decide_eq_true_eq] at h; omega
theorem isDig_no {c : UInt8} (h : isDig c = false) : (c.toNat : Int) < 48 ∨ 57 < (c.toNat : Int) := by
  simp only [isDig, Bool.and_eq_false_iff, decide_eq_false_iff_not] at h; omega
theorem digits_end (s : ByteArray) (h : s.data.toList.all isDig = true) : decide (0 < s.size) = digits s.data.toList := by
  unfold digits; rw [h, Bool.true_and]
  have : s.data.toList.length = s.size := by simp
  generalize s.data.toList = l at this
  rw [← this]
  cases l <;> simp

theorem decode_no (s : ByteArray) (k : Nat) (h : k < s.size) (hd : isDig s[k] = false) : ((Utf8.decode s k).1 : Int) < 48 ∨ 57 < ((Utf8.decode s k).1 : Int) := by
  by_cases ha : s[k].toNat < 128
  · rw [decode_ascii s k h ha]; exact isDig_no hd
  · have := (decode_high s k h (by omega)).1; omega
theorem digits_end2 (s : ByteArray) (h : s.data.toList.all isDig = true) : (!s.toList.isEmpty) = digits s.data.toList := by
  unfold digits; rw [h, Bool.true_and, toList_data]


def isLow (c : UInt8) : Bool := decide (97 ≤ c.toNat) && decide (c.toNat ≤ 122)
/-- May the byte c stand at place j of a name? -/
def nameAt (j : Nat) (c : UInt8) : Bool := isLow c || (j != 0 && isDig c)
def isName (s : ByteArray) : Bool := decide (1 ≤ s.size) && decide (s.size ≤ 8) && decide (∀ j, (h : j < s.size) → nameAt j s[j] = true)

theorem isLow_yes {c : UInt8} (h : isLow c = true) : 97 ≤ (c.toNat : Int) ∧ (c.toNat : Int) ≤ 122 := by
  simp only [isLow, Bool.and_eq_true, decide_eq_true_eq] at h; omega
theorem isLow_no {c : UInt8} (h : isLow c = false) : (c.toNat : Int) < 97 ∨ 122 < (c.toNat : Int) := by
  simp only [isLow, Bool.and_eq_false_iff, decide_eq_false_iff_not] at h; omega
theorem decode_low_no (s : ByteArray) (k : Nat) (h : k < s.size) (hd : isLow s[k] = false) : ((Utf8.decode s k).1 : Int) < 97 ∨ 122 < ((Utf8.decode s k).1 : Int) := by
  by_cases ha : s[k].toNat < 128
  · rw [decode_ascii s k h ha]; exact isLow_no hd
  · have := (decode_high s k h (by omega)).1; omega
theorem isName_bad (s : ByteArray) (k : Nat) (h : k < s.size) (hb : nameAt k s[k] = false) : isName s = false := by
  unfold isName
  rw [Bool.and_eq_false_iff]; right
  rw [decide_eq_false_iff_not]
  intro hall
  rw [hall k h] at hb
  cases hb
theorem isName_len (s : ByteArray) (h : s.size < 1 ∨ 8 < s.size) : isName s = false := by
  unfold isName
  rw [Bool.and_eq_false_iff]; left
  rw [Bool.and_eq_false_iff, decide_eq_false_iff_not, decide_eq_false_iff_not]; omega
theorem isName_end (s : ByteArray) (h : ∀ j, (h : j < s.size) → nameAt j s[j] = true) : isName s = (decide (1 ≤ s.size) && decide (s.size ≤ 8)) := by
  unfold isName
  rw [decide_eq_true h, Bool.and_true]
/-- The three ways of a place. -/
theorem nameAt_cases (k : Nat) (c : UInt8) : (isLow c = true ∧ nameAt k c = true) ∨ (isLow c = false ∧ k = 0 ∧ nameAt k c = false) ∨
    (isLow c = false ∧ 0 < k ∧ isDig c = true ∧ nameAt k c = true) ∨ (isLow c = false ∧ 0 < k ∧ isDig c = false ∧ nameAt k c = false) := by
  unfold nameAt
  cases isLow c <;> cases isDig c <;> by_cases h : k = 0 <;> simp [h] <;> omega


theorem trodAll_below {H : Type} {enc : TypeId × Value → H} {P : Program} (hl : laidOutB P = true) {W W' : World} (hb : Below W.heap.size W W') :
    ∀ (ts : List TypeId) (vs : List Value) (ds : List (DataW H)) (ps : List MemPlace), ts.all (fun t => P.readableRec t && decide (t < P.types.size)) = true →
      DataW.TrodAll enc P W 0 (fun _ => true) true ts vs ds ps → (∀ x ∈ ps, x.block < W.heap.size) →
      DataW.TrodAll enc P W' 0 (fun b => decide (b < W.heap.size)) true ts vs ds ps := by
  intro ts
  induction ts with
  | nil =>
    intro vs ds ps _ h _
    obtain ⟨rfl, rfl, rfl⟩ := trodAll_nil h
    exact trodAll_mk0
  | cons t ts ih =>
    intro vs ds ps ht h hlt
    obtain ⟨v, vs', d, ds', p, q, rfl, rfl, rfl, h0, r0⟩ := trodAll_cons h
    simp only [List.all_cons, Bool.and_eq_true, decide_eq_true_eq] at ht
    exact trodAll_cons_mk (Below.trod hl ht.1.1 ht.1.2 h0 hb (fun x hx => hlt x (List.mem_append_left _ hx))) (ih _ _ _ ht.2 r0 (fun x hx => hlt x (List.mem_append_right _ hx)))

/-- A LAW's END: it returned true, and below the old heap's end nothing has turned. -/
theorem law_post {H : Type} {enc : TypeId × Value → H} {P : Program} {f : Func} {s : ChangeSpec} {W W' : World} {args : Array Value} {ds gs : List (DataW H)} {before : List MemPlace} {tb : TypeId}
    (hW : DataW.Whole enc P f.params.toList s.vars false W args.toList ds gs before) (hvars : s.vars = []) (hfn : s.fn H ds = { results := [.lit (.bool true)], args := ds })
    (hres : f.resultTypes = #[tb]) (hbool : P.underlying tb = some .bool) (hl : laidOutB P = true) (hread : f.params.toList.all (fun t => P.readableRec t && decide (t < P.types.size)) = true)
    (hb : Below W.heap.size W W') : s.post enc P f false true false false W args (.bool true) W' := by
  have hlt : ∀ p ∈ before, p.block < W.heap.size := fun p hp => hW.lt p hp
  have hW' := hW
  obtain ⟨p, q, hA0, hV, rfl, hfz, hnd⟩ := hW
  rw [hvars] at hV
  obtain ⟨rfl, rfl⟩ := trodVars_none hV
  simp only [List.append_nil] at hW' hlt
  refine ⟨ds, [], p, [], p, [], by simpa using hW', ?_, ?_, ?_, ?_, fun h => by cases h⟩
  · rw [List.append_nil, hfn, hres]
    exact trodAll_cons_mk (shut_bool hbool _) trodAll_mk0
  · rw [List.append_nil, hfn]
    exact trodAll_below hl hb _ _ _ _ hread hA0 hlt
  · rw [List.append_nil, hfn, hvars]; rfl
  · exact World.keptBut_mono (fun p hp => ⟨hp, Or.inr (Or.inl hp)⟩) (hb.frame (· ∈ p))
end Go.Proofs.YtlehdmflnglipaaDoor
