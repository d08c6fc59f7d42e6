/- A rule's text, in plain terms: what is split at one byte is joined by it to the same; when a text is that of its sides. -/
import Derived.Test.YtfkojahoaljiaaaDoorJoinSplit
import Derived.Test.YtfkojahoaljiaaaDoorFormatRule
import Derived.Test.YtfkojahoaljiaaaDoorLetters
namespace Go.Proofs.YtfkojahoaljiaaaDoor
open Go.RowKit

theorem sepOf_one (c : UInt8) : sepOf [c] = fun x => x == c.toNat := by
  funext x
  show ([c].any fun y => y.toNat == x) = _
  simp only [List.any_cons, List.any_nil, Bool.or_false]
  rw [Bool.eq_iff_iff, beq_iff_eq, beq_iff_eq]
  exact ⟨fun h => h.symm, fun h => h.symm⟩
theorem join_splitL (c : UInt8) (s : ByteArray) : joinS (splitL (sepOf [c]) s.data.toList) ⟨#[c]⟩ = s := by
  have h := join_split c s.data.toList
  rw [← sepOf_one] at h
  unfold joinS splitL
  rw [List.map_map]
  have hm : ((fun x : ByteArray => x.data.toList) ∘ mkS) = id := by funext x; simp [mkS]
  rw [hm, List.map_id]
  show (⟨(Lib.join _ [c]).toArray⟩ : ByteArray) = s
  rw [h]
/-- The parts of a rule's text. -/
def gtParts (s : ByteArray) : List ByteArray := splitL (sepOf [62]) s.data.toList
theorem gtParts_two {s a b : ByteArray} (h : gtParts s = [a, b]) : s = a ++ ⟨#[62]⟩ ++ b := by
  have := join_splitL 62 s
  rw [show splitL (sepOf [62]) s.data.toList = [a, b] from h, join_gt] at this
  exact this.symm
theorem gtParts_size {s a b : ByteArray} (h : gtParts s = [a, b]) : a.size + b.size + 1 = s.size := by
  rw [gtParts_two h]; simp only [ByteArray.size_append]
  show _ = a.size + 1 + b.size
  omega
def dot : ByteArray := ⟨#[46]⟩
/-- A side's word, out of its text. -/
def sideW (a : ByteArray) : ByteArray := if a = dot then ⟨#[]⟩ else a
def sideWOk (a : ByteArray) : Bool := decide (a = dot) || (decide (a.size ≠ 0) && wordOk 4 a)
def sideV (a : ByteArray) : ByteArray := if sideWOk a then sideW a else ⟨#[]⟩
theorem wordOk_empty : wordOk 4 ⟨#[]⟩ = true := rfl
theorem sideWOk_eq (a : ByteArray) : sideWOk a = (wordOk 4 (sideW a) && decide (a.size ≠ 0)) := by
  unfold sideWOk sideW
  by_cases h : a = dot
  · subst h; rfl
  · rw [if_neg h, decide_eq_false h, Bool.false_or, Bool.and_comm]
theorem sideT_W (a : ByteArray) : sideT (sideW a) = if a.size = 0 then dot else a := by
  unfold sideW sideT
  by_cases h : a = dot
  · rw [if_pos h]
    have hz : ¬ a.size = 0 := by rw [h]; decide
    rw [if_neg hz, if_pos (show (⟨#[]⟩ : ByteArray).size = 0 from rfl)]
    exact h.symm
  · rw [if_neg h]; rfl
/-- Is the formatted rule the text? Just if no side's text is empty. -/
theorem ruleT_eq (a b : ByteArray) : decide (ruleT (sideW a, sideW b) = a ++ ⟨#[62]⟩ ++ b) = (decide (a.size ≠ 0) && decide (b.size ≠ 0)) := by
  unfold ruleT
  simp only [sideT_W]
  by_cases ha : a.size = 0
  · rw [if_pos ha]
    have hne : ¬ (dot ++ ⟨#[62]⟩ ++ (if b.size = 0 then dot else b) = a ++ ⟨#[62]⟩ ++ b) := by
      intro h
      have h1 := congrArg ByteArray.size h
      simp only [ByteArray.size_append] at h1
      have hd : dot.size = 1 := rfl
      have hs : b.size ≤ (if b.size = 0 then dot else b).size := by split <;> omega
      omega
    rw [decide_eq_false hne]; simp [ha]
  · rw [if_neg ha]
    by_cases hb : b.size = 0
    · rw [if_pos hb]
      have hne : ¬ (a ++ ⟨#[62]⟩ ++ dot = a ++ ⟨#[62]⟩ ++ b) := by
        intro h
        have h1 := congrArg ByteArray.size h
        simp only [ByteArray.size_append] at h1
        have hd : dot.size = 1 := rfl
        omega
      rw [decide_eq_false hne]; simp [hb]
    · rw [if_neg hb]; simp [ha, hb]
/-- What ParseRule answers for two parts. -/
def parseTwo (a b : ByteArray) : R × Bool := if sideWOk a && sideWOk b then ((sideW a, sideW b), true) else ((⟨#[]⟩, ⟨#[]⟩), false)
def parseR (s : ByteArray) : R × Bool := match gtParts s with
  | [a, b] => parseTwo a b
  | _ => ((⟨#[]⟩, ⟨#[]⟩), false)
theorem parseR_two {s a b : ByteArray} (h : gtParts s = [a, b]) : parseR s = parseTwo a b := by unfold parseR; rw [h]
theorem parseR_not {s : ByteArray} (h : (gtParts s).length ≠ 2) : parseR s = ((⟨#[]⟩, ⟨#[]⟩), false) := by
  unfold parseR
  split
  · rename_i a b e; rw [e] at h; simp at h
  · rfl
theorem two_of_len {s : ByteArray} (h : (gtParts s).length = 2) : ∃ a b, gtParts s = [a, b] := by
  match gtParts s, h with
  | [a, b], _ => exact ⟨a, b, rfl⟩
/-- Whatever ParseRule answers is formatted to the text. -/
theorem parseR_text {s : ByteArray} (h : (parseR s).2 = true) : ruleT (parseR s).1 = s := by
  by_cases hl : (gtParts s).length = 2
  · obtain ⟨a, b, e⟩ := two_of_len hl
    rw [parseR_two e] at h ⊢
    unfold parseTwo at h ⊢
    split at h
    · rename_i hc
      rw [if_pos hc]
      rw [Bool.and_eq_true, sideWOk_eq, sideWOk_eq, Bool.and_eq_true, Bool.and_eq_true] at hc
      have := ruleT_eq a b
      rw [hc.1.2, hc.2.2] at this
      rw [gtParts_two e]
      simpa using this
    · cases h
  · rw [parseR_not hl] at h; cases h
theorem sideW_le (x : ByteArray) : (sideW x).size ≤ x.size := by
  unfold sideW; split
  · exact Nat.zero_le _
  · exact Nat.le_refl _
theorem parseR_small {s : ByteArray} : (parseR s).1.1.size ≤ s.size ∧ (parseR s).1.2.size ≤ s.size := by
  by_cases hl : (gtParts s).length = 2
  · obtain ⟨a, b, e⟩ := two_of_len hl
    have hs := gtParts_size e
    have hw : ∀ x : ByteArray, (sideW x).size ≤ x.size := by
      intro x; unfold sideW; split
      · exact Nat.zero_le _
      · exact Nat.le_refl _
    have h1 := hw a
    have h2 := hw b
    rw [parseR_two e]
    unfold parseTwo
    split
    · exact ⟨by show (sideW a).size ≤ _; omega, by show (sideW b).size ≤ _; omega⟩
    · exact ⟨Nat.zero_le _, Nat.zero_le _⟩
  · rw [parseR_not hl]; exact ⟨Nat.zero_le _, Nat.zero_le _⟩
end Go.Proofs.YtfkojahoaljiaaaDoor
