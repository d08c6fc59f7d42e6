/- spec.SplitAny. -/
import Derived.Test.YtfkojahoaljiaaaDoorSplitPlain
import Derived.Deep.QuietTactic
import Derived.BigQuiet
namespace Go.Proofs.YtfkojahoaljiaaaDoor
open Go.RowKit

set_option maxHeartbeats 800000 in
set_option maxRecDepth 100000 in
theorem specSplitAny (s b : ByteArray) (w : World) (hs : s.size ≤ 1048576) (hb : b.size ≤ maxLen) :
    Calls Tryd.prog 49 #[.string s, .string b] w fun e w' => ∃ v, e = .returned v ∧ Own w.heap.size w' v 1 (splitL (sepOf b.data.toList) s.data.toList).length (strs (splitL (sepOf b.data.toList) s.data.toList)) ∧ Below w.heap.size w w' := by
  obtain ⟨i0, hi, hz0, hz1, hz2⟩ := info_parts infoStr
  unfold maxLen at hb
  go_enter Tryd.func49, Tryd.ntmps49
  go_wp2
  go_loopw [5, 6, 7, 8] (fun v f i _ wr => ∃ (k a : Nat) (A : List (List UInt8)), k ≤ s.size ∧ a ≤ k ∧ A.length ≤ k ∧ f = .int .i64 a ∧ i = .int .i64 k ∧
      Hid (splitSt (sepOf b.data.toList) (s.data.toList.take k) = (A, (s.data.toList.take k).drop a)) ∧ Hid (wr.ownsRow w.heap.size 9 1 v A.length (strs (A.map mkS))) ∧
      Below w.heap.size w wr ∧ w.heap.size ≤ wr.heap.size) (fun _ _ i _ _ => s.size - (intOf i).toNat)
  case atStart => exact ⟨0, 0, [], Nat.zero_le _, Nat.le_refl _, Nat.le_refl _, rfl, rfl, by simp [Hid, splitSt], ⟨rfl, Or.inr ⟨w.heap.size, 0, #[], rfl, Nat.le_refl _, heap_alloc_new w _, Nat.le_refl _, by unfold maxLen; omega, rfl, rfl⟩⟩, (Below.refl _ _).alloc (Nat.le_refl _) _, by simp⟩
  case round =>
    obtain ⟨k, a, A, hk, hak, hA, rfl, rfl, HS, HO, hbw, hsz⟩ := hrel
    by_cases hlt : k < s.size
    · go_wp2
      go_loopw [5, 6, 8] (fun v f q wx => ∃ (j m : Nat), j ≤ b.size ∧ q = .int .i64 j ∧ v = u5 ∧ f = .int .i64 a ∧ wx = wr.drewN m ∧ Hid (∀ x, (hx : x < b.size) → x < j → ¬ b[x] = s[k])) (fun _ _ q _ => b.size - (intOf q).toNat)
      case atStart => exact ⟨0, 0, Nat.zero_le _, rfl, rfl, rfl, rfl, fun x _ hx => absurd hx (by omega)⟩
      case round =>
        obtain ⟨j, m, hj, rfl, rfl, rfl, rfl, HN⟩ := hrel
        by_cases hjl : j < b.size
        · by_cases hm : b[j] = s[k]
          · have he : ((s[k].toNat : Int) == (b[j].toNat : Int)) = true := by rw [hm]; simp
            have hsep : sepOf b.data.toList s[k].toNat = true := by
              unfold sepOf
              rw [List.any_eq_true]
              exact ⟨b[j], get_mem b j hjl, by rw [hm]; simp⟩
            have Hsep := Lib.hid hsep
            clear hsep hm
            go_wp2
            go_quiet (fail)
            go_wp2_with (at_builtin; refine wpList_append_own _ rfl _ _ 28 rfl w.heap.size 9 i0 (.string ⟨#[]⟩) 1 16 Tryd.underlying28 hi hz0 hz1 hz2 rfl (by decide) _ _ _ rfl (show World.ownsRow _ _ _ _ _ _ _ from (HO.out.alloc _)) ⟨wr.heap.size, 0, none⟩ 1 1 [.string (s.extract a k)] rfl rfl ?c1 ?c2 ?c3 ?c4 ?c5 ?_)
            case c1 =>
              intro j u hj
              match j, hj with
              | 0, hj => simp at hj; subst hj; rw [show (⟨wr.heap.size, 0, none⟩ : Addr).add 0 = ⟨wr.heap.size, 0, none⟩ from rfl, World.cell?_alloc_at _ _ _ _ (by simp)]; rfl
            case c2 => intro u hu; simp at hu; subst hu; rfl
            case c3 => unfold maxLen; omega
            case c4 => omega
            case c5 => simp; omega
            intro v' w3 hown' hgrow _
            have hS2 : splitSt (sepOf b.data.toList) (s.data.toList.take (k + 1)) = (A ++ [(s.data.toList.take k).drop a], (s.data.toList.take (k + 1)).drop (k + 1)) := by
              rw [take_snoc s k hlt, splitSt_snoc, HS.out, Hsep.out, if_pos rfl]
              congr 1
              exact (List.drop_of_length_le (by simp; omega)).symm
            have hO2 : w3.ownsRow w.heap.size 9 1 v' (A ++ [(s.data.toList.take k).drop a]).length (strs ((A ++ [(s.data.toList.take k).drop a]).map mkS)) := by
              have e : strs (A.map mkS) ++ [Value.string (s.extract a k)] = strs ((A ++ [(s.data.toList.take k).drop a]).map mkS) := by
                rw [extract_mkS s a k (by omega)]; simp [strs]
              rw [← e, List.length_append]; exact hown'
            have hbw3 : Below w.heap.size w w3 := grown_one (w := wr.drewN _) (show World.ownsRow _ _ _ _ _ _ _ from HO.out) hgrow (below_drewN hbw _) (Nat.le_refl _) hsz
            have hsz3 := hgrow.size
            simp at hsz3
            have HS2 := Lib.hid hS2
            have HO2 := Lib.hid hO2
            clear hS2 hO2 hown' hgrow
            go_wp2
            go_roundw
            case rel => exact ⟨k + 1, k + 1, _, by omega, Nat.le_refl _, by simp; omega, by go_num, by go_num, HS2, HO2, hbw3, by omega⟩
            case measure => simp [intOf]; omega
          · have he : ((s[k].toNat : Int) == (b[j].toNat : Int)) = false := by
              rw [beq_eq_false_iff_ne]; intro h; exact hm (UInt8.toNat_inj.1 (by omega))
            have Hm := Lib.hid hm
            clear hm
            go_wp2
            go_quiet (fail)
            all_goals go_wp2
            go_roundw
            case rel => exact ⟨j + 1, _, by omega, by go_num, rfl, rfl, rfl, fun x hx h => by
              by_cases e : x = j
              · subst e; exact Hm.out
              · exact HN.out x hx (by omega)⟩
            case measure => simp [intOf]; omega
        · have hsep : sepOf b.data.toList s[k].toNat = false := by
            unfold sepOf
            rw [List.any_eq_false]
            intro x hx
            obtain ⟨i, hi, rfl⟩ := List.getElem_of_mem hx
            intro h
            exact HN.out i (by simpa using hi) (by simp at hi; omega) (UInt8.toNat_inj.1 (beq_iff_eq.1 h))
          have hS2 : splitSt (sepOf b.data.toList) (s.data.toList.take (k + 1)) = (A, (s.data.toList.take (k + 1)).drop a) := by
            rw [take_snoc s k hlt, splitSt_snoc, HS.out, hsep, if_neg (by simp), List.drop_append_of_le_length (by simp; omega)]
          have HS2 := Lib.hid hS2
          clear hS2 hsep
          go_wp2
          go_roundw
          case rel => exact ⟨k + 1, a, A, by omega, by omega, by omega, rfl, by go_num, HS2, HO, below_drewN hbw _, hsz⟩
          case measure => simp [intOf]; omega
    · go_wp2_with (at_builtin; refine wpList_append_own _ rfl _ _ 28 rfl w.heap.size 9 i0 (.string ⟨#[]⟩) 1 16 Tryd.underlying28 hi hz0 hz1 hz2 rfl (by decide) _ _ _ rfl (HO.out.alloc _) ⟨wr.heap.size, 0, none⟩ 1 1 [.string (s.extract a s.size)] rfl rfl ?c1 ?c2 ?c3 ?c4 ?c5 ?_)
      case c1 =>
        intro j u hj
        match j, hj with
        | 0, hj => simp at hj; subst hj; simp [Addr.add]
      case c2 => intro u hu; simp at hu; subst hu; rfl
      case c3 => unfold maxLen; omega
      case c4 => omega
      case c5 => simp; omega
      intro v' w3 hown' hgrow _
      have hS : splitL (sepOf b.data.toList) s.data.toList = (A ++ [(s.data.toList.take s.size).drop a]).map mkS := by
        have h1 := HS.out
        rw [take_all s k hlt] at h1
        unfold splitL
        rw [h1, show s.data.toList.take s.size = s.data.toList from List.take_of_length_le (by simp)]
      have hO2 : w3.ownsRow w.heap.size 9 1 v' (splitL (sepOf b.data.toList) s.data.toList).length (strs (splitL (sepOf b.data.toList) s.data.toList)) := by
        have e : strs (A.map mkS) ++ [Value.string (s.extract a s.size)] = strs (splitL (sepOf b.data.toList) s.data.toList) := by
          rw [extract_mkS s a s.size (Nat.le_refl _), hS]; simp [strs]
        rw [← e, show (splitL (sepOf b.data.toList) s.data.toList).length = A.length + 1 by rw [hS]; simp]; exact hown'
      have hbw3 : Below w.heap.size w w3 := grown_one HO.out hgrow hbw (Nat.le_refl _) hsz
      have HO2 := Lib.hid hO2
      clear hO2 hS hown' hgrow
      go_wp2
      go_ret
      exact ⟨_, rfl, Own.of_row HO2.out, hbw3⟩
end Go.Proofs.YtfkojahoaljiaaaDoor
