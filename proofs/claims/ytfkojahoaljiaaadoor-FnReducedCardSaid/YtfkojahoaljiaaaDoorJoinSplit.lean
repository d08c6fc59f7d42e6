/- What is split at one byte and joined by it is what it was. -/
import Derived.Test.YtfkojahoaljiaaaDoorSplitPlain
import Derived.Test.YtfkojahoaljiaaaDoorJoinPlain
namespace Go.Proofs.YtfkojahoaljiaaaDoor
open Go.RowKit

theorem join_snoc (A : List (List UInt8)) (x : List UInt8) (sep : List UInt8) : Lib.join (A ++ [x]) sep = if A = [] then x else Lib.join A sep ++ sep ++ x := by
  cases A with
  | nil => simp [Lib.join_one]
  | cons a r => rw [if_neg (by simp), List.cons_append, Lib.join_cons, Lib.join_cons]; simp [Lib.joinTail]
theorem join_split (c : UInt8) (l : List UInt8) : Lib.join ((splitSt (fun x => x == c.toNat) l).1 ++ [(splitSt (fun x => x == c.toNat) l).2]) [c] = l := by
  suffices H : ∀ n (l : List UInt8), l.length = n → Lib.join ((splitSt (fun x => x == c.toNat) l).1 ++ [(splitSt (fun x => x == c.toNat) l).2]) [c] = l from H _ l rfl
  intro n
  induction n with
  | zero =>
    intro l hl
    obtain rfl := List.eq_nil_of_length_eq_zero hl
    simp [splitSt, Lib.join_one]
  | succ n ih0 =>
    intro l' hl'
    obtain ⟨l, d, rfl⟩ : ∃ l d, l' = l ++ [d] := ⟨l'.dropLast, l'.getLast (by intro e; rw [e] at hl'; cases hl'), (List.dropLast_concat_getLast _).symm⟩
    have ih := ih0 l (by simp at hl'; omega)
    clear ih0 hl'
    rw [splitSt_snoc]
    by_cases h : d = c
    · subst h
      rw [if_pos (by simp)]
      rw [join_snoc, if_neg (by simp)]
      show Lib.join _ [d] ++ [d] ++ [] = _
      rw [ih]; simp
    · rw [if_neg (by simpa using fun e => h (UInt8.toNat_inj.1 e))]
      show Lib.join ((splitSt (fun x => x == c.toNat) l).1 ++ [(splitSt (fun x => x == c.toNat) l).2 ++ [d]]) [c] = _
      rw [join_snoc] at ih ⊢
      by_cases hA : (splitSt (fun x => x == c.toNat) l).1 = []
      · rw [if_pos hA] at ih ⊢; rw [ih]
      · rw [if_neg hA] at ih ⊢; rw [← List.append_assoc, ih]
def blank : ByteArray := ⟨#[32]⟩
theorem join_split_blank (s : ByteArray) : joinS (splitL (sepOf blank.data.toList) s.data.toList) blank = s := by
  have hp : sepOf blank.data.toList = fun x => x == (32 : UInt8).toNat := by
    funext x
    show ([(32 : UInt8)].any fun y => y.toNat == x) = _
    simp only [List.any_cons, List.any_nil, Bool.or_false]
    rw [Bool.eq_iff_iff, beq_iff_eq, beq_iff_eq]
    exact ⟨fun h => h.symm, fun h => h.symm⟩
  have h := join_split 32 s.data.toList
  rw [← hp] at h
  unfold joinS splitL
  rw [List.map_map]
  have hm : ((fun x : ByteArray => x.data.toList) ∘ mkS) = id := by funext x; simp [mkS]
  rw [hm, List.map_id]
  show (⟨(Lib.join _ [32]).toArray⟩ : ByteArray) = s
  rw [h]
theorem total_splitL (s : ByteArray) : total (splitL (sepOf blank.data.toList) s.data.toList) ≤ s.size := by
  have h := join_split_blank s
  have hj : (joinS (splitL (sepOf blank.data.toList) s.data.toList) blank).size = s.size := by rw [h]
  have hg : ∀ (xs : List ByteArray) (b : ByteArray), total xs ≤ (joinS xs b).size := by
    intro xs b
    show _ ≤ (Lib.join (xs.map (·.data.toList)) b.data.toList).toArray.size
    cases xs with
    | nil => simp [total]
    | cons x r =>
      have h1 : ∀ l : List ByteArray, Lib.lens (l.map (·.data.toList)) = total l := by
        intro l; unfold Lib.lens total
        rw [List.map_map]; exact congrArg List.sum (List.map_congr_left (fun a _ => Array.length_toList ..))
      rw [List.size_toArray, List.map_cons, Lib.join_length, ← List.map_cons (f := fun x : ByteArray => x.data.toList), h1]
      omega
  have := hg (splitL (sepOf blank.data.toList) s.data.toList) blank
  omega
end Go.Proofs.YtfkojahoaljiaaaDoor
