/- All words of a length: impl.WordsOf. -/
import Derived.Test.YtpgfjcnbgomagaaDoorLengthened
namespace Go.Proofs.YtpgfjcnbgomagaaDoor
open Go.RowKit Go.Joins

/-- May all words of length n with k letters be listed? -/
def wordsOk (k n : Int) : Prop := 1 ≤ k ∧ k ≤ 4 ∧ 0 ≤ n ∧ n ≤ 256 ∧ ∀ i, i < n.toNat → (wordsL k.toNat i).length * k.toNat ≤ 256
/-- What WordsOf answers: the list and the flag. -/
def WordsRet (k n : Int) (l : List ByteArray) (ok : Bool) : Prop := (ok = false ∧ l = [] ∧ ¬ wordsOk k n) ∨ (ok = true ∧ wordsOk k n ∧ l = wordsL k.toNat n.toNat)
def WordsPost (k n : Int) (W : World) (e : Ending) (w' : World) : Prop :=
  ∃ v l ok, e = .returned (.tuple #[v, .bool ok]) ∧ WordsRet k n l ok ∧ Own W.heap.size w' v 1 l.length (strs l) ∧ l.length ≤ 1024 ∧ Below W.heap.size W w'
theorem WordsRet.one {k n : Int} {l l' : List ByteArray} {ok ok' : Bool} (h : WordsRet k n l ok) (h' : WordsRet k n l' ok') : l = l' ∧ ok = ok' := by
  rcases h with ⟨h1, h2, h3⟩ | ⟨h1, h2, h3⟩ <;> rcases h' with ⟨k1, k2, k3⟩ | ⟨k1, k2, k3⟩
  · exact ⟨h2.trans k2.symm, h1.trans k1.symm⟩
  · exact absurd k2 h3
  · exact absurd h2 k3
  · exact ⟨h3.trans k3.symm, h1.trans k1.symm⟩
theorem words_bad {k n : Int} (W : World) (h : ¬ wordsOk k n) {w' : World} (hb : Below W.heap.size W w') : WordsPost k n W (.returned (.tuple #[.slice none 0 0, .bool false])) w' :=
  ⟨_, [], _, rfl, Or.inl ⟨rfl, rfl, h⟩, Own.none_, Nat.zero_le _, hb⟩

set_option maxHeartbeats 800000 in
set_option maxRecDepth 100000 in
theorem implWordsOf (k n : Int) (w : World) (hn0 : -9223372036854775808 ≤ n) (hL : Let w) :
    Calls Tryd.prog 14 #[.int .i64 k, .int .i64 n] w (WordsPost k n w) := by
  have HL := Lib.hid hL
  clear hL
  by_cases hk : 1 ≤ k ∧ k ≤ 4
  case neg =>
    have Hd := Lib.hid (show inK k = false by simp [inK]; omega)
    have Hno := Lib.hid (words_bad w (show ¬ wordsOk k n from fun h => hk ⟨h.1, h.2.1⟩) (Below.refl _ w))
    clear hk
    go_enter Tryd.func14, Tryd.ntmps14
    go_wp2_with (go_at_call 21; refine (lettersOk_any _ _).mono ?_; rw [Hd.out]; rintro e w' ⟨rfl, rfl⟩)
    go_ret2
    exact Hno.out
  have Hd := Lib.hid (show inK k = true by simp [inK]; omega)
  by_cases hneg : n < 0
  · have Hno := Lib.hid (words_bad w (show ¬ wordsOk k n from fun h => by have := h.2.2.1; omega) (Below.refl _ w))
    clear hk
    go_enter Tryd.func14, Tryd.ntmps14
    go_wp2_with (go_at_call 21; refine (lettersOk_any _ _).mono ?_; rw [Hd.out]; rintro e w' ⟨rfl, rfl⟩)
    go_ret2
    exact Hno.out
  by_cases hbig : 256 < n
  · have Hno := Lib.hid (words_bad w (show ¬ wordsOk k n from fun h => by have := h.2.2.2.1; omega) (Below.refl _ w))
    clear hk
    go_enter Tryd.func14, Tryd.ntmps14
    go_wp2_with (go_at_call 21; refine (lettersOk_any _ _).mono ?_; rw [Hd.out]; rintro e w' ⟨rfl, rfl⟩)
    go_ret2
    exact Hno.out
  obtain ⟨k, rfl⟩ : ∃ m : Nat, k = m := ⟨k.toNat, by omega⟩
  obtain ⟨n, rfl⟩ : ∃ m : Nat, n = m := ⟨n.toNat, by omega⟩
  have hk1 : k ≤ 4 := by omega
  have Hk0 := Lib.hid (show 1 ≤ k by omega)
  have HO0 := Lib.hid (Own.new w #[.string ⟨#[]⟩] 1 9 rfl (by unfold maxLen; omega))
  clear hk
  go_enter Tryd.func14, Tryd.ntmps14
  go_wp2_with (go_at_call 21; refine (lettersOk_any _ _).mono ?_; rw [Hd.out]; rintro e w' ⟨rfl, rfl⟩)
  go_loopw [6, 20] (fun v i wr => ∃ j m : Nat, j ≤ n ∧ i = .int .i64 j ∧ m ≤ 256 ∧ Hid ((wordsL k j).length = m) ∧ (∃ A c, v = .slice A m c) ∧ Hid (Own w.heap.size wr v 1 m (strs (wordsL k j))) ∧ Hid (∀ i, i < j → (wordsL k i).length * k ≤ 256) ∧ Below w.heap.size w wr ∧ w.heap.size ≤ wr.heap.size) (fun _ i _ => n - (intOf i).toNat)
  case atStart => exact ⟨0, 1, Nat.zero_le _, rfl, by omega, rfl, ⟨_, _, rfl⟩, HO0, fun i h => by omega, (Below.refl _ _).alloc (Nat.le_refl _) _, by simp⟩
  case round =>
    obtain ⟨j, m, hj, rfl, hm, Hm, ⟨A, c, rfl⟩, HO, HB, hb, hsz⟩ := hrel
    by_cases hlt : j < n
    · obtain ⟨p, hp, hmul⟩ : ∃ p : Nat, m * k = p ∧ (m : Int) * (k : Int) = (p : Int) := ⟨m * k, rfl, rfl⟩
      have hp4 : p ≤ 1024 := by rw [← hp]; exact Nat.mul_le_mul hm hk1
      have Hp := Lib.hid hp
      clear hp
      by_cases hbig2 : 256 < p
      · have Hno := Lib.hid (words_bad w (show ¬ wordsOk (k : Int) (n : Int) from fun h => by
          have h1 := h.2.2.2.2 j (by omega)
          rw [Int.toNat_natCast, Hm.out, Hp.out] at h1
          omega) hb)
        go_wp2_with fail
        go_ret2
        exact Hno.out
      · go_wp2_with (go_at_call 25; refine (lengthened_any A m c w.heap.size k (wordsL k j) _ HO.out hm hk1 (fun s hs => by rw [wordsL_size k j s hs]; omega) (HL.out.keep hb (Nat.le_refl _))).mono ?_)
        rintro e w1 ⟨v, rfl, o1, b1⟩
        rw [Hp.out] at o1
        obtain ⟨A1, c1, rfl⟩ := o1.form
        have HO1 := Lib.hid (o1.mono hsz)
        have s1 := b1.size
        clear o1
        go_wp2_with fail
        go_roundw
        case rel => exact ⟨j + 1, p, by omega, by go_num, by omega, by show _ = _; rw [wordsL_step_length, Hm.out, Hp.out], ⟨_, _, rfl⟩, HO1, fun i h => by
          by_cases e : i = j
          · subst e; rw [Hm.out, Hp.out]; omega
          · exact HB.out i (by omega), hb.trans (b1.mono hsz), by omega⟩
        case measure => simp [intOf]; omega
    · obtain rfl : j = n := by omega
      have Hy := Lib.hid (show WordsRet (k : Int) (j : Int) (wordsL k j) true from Or.inr ⟨rfl, ⟨by have := Hk0.out; omega, by omega, by omega, by omega, fun i h => HB.out i (by omega)⟩, rfl⟩)
      go_wp2_with fail
      go_ret2
      exact ⟨_, _, _, rfl, Hy.out, by rw [Hm.out]; exact HO.out, by rw [Hm.out]; omega, hb⟩
end Go.Proofs.YtpgfjcnbgomagaaDoor
