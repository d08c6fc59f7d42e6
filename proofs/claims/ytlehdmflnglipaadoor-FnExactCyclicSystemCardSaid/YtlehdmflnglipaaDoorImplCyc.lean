/- Both CyclicSystem. -/
import Derived.Test.YtlehdmflnglipaaDoorImplKnown
import Derived.Test.YtlehdmflnglipaaDoorPower
import Derived.Test.YtlehdmflnglipaaDoorL01In
namespace Go.Proofs.YtlehdmflnglipaaDoor
open Go.RowKit

def aB : ByteArray := ⟨#[97]⟩
theorem letW_aB : letW [0] = aB := rfl
def cycP (n : Int) : Int × List R × Bool := if 1 ≤ n ∧ n ≤ 8 then (1, [(powS aB n.toNat, ⟨#[]⟩)], true) else (0, [], false)
theorem cycP_no {n : Int} (h : ¬ (1 ≤ n ∧ n ≤ 8)) : cycP n = (0, [], false) := by unfold cycP; rw [if_neg h]
theorem cycP_yes {n : Nat} (h : 1 ≤ n ∧ n ≤ 8) : cycP n = (1, [(powS aB n, ⟨#[]⟩)], true) := by unfold cycP; rw [if_pos (by omega)]; rfl
theorem cycP_len (n : Int) : (cycP n).2.1.length ≤ 16 := by
  unfold cycP
  by_cases h : 1 ≤ n ∧ n ≤ 8
  · rw [if_pos h]; show 1 ≤ 16; omega
  · rw [if_neg h]; exact Nat.zero_le _
theorem own_rule1 {W : World} {B g : Nat} {t : TypeId} {u v : ByteArray} (h : Blk W g t #[.string u, .string v]) (hB : B ≤ g) : Own B W (.slice (some ⟨g, 0, none⟩) 1 1) 2 1 (rulesC [(u, v)]) := by
  refine ⟨rfl, _, 1, rfl, Nat.le_refl _, by unfold maxLen; omega, fun _ => ⟨g, 0, rfl, hB, h.lt, fun j hj => ?_⟩⟩
  match j, hj with
  | 0, _ => exact ⟨h.cell 0, h.frozen 0⟩
  | 1, _ => exact ⟨h.cell 1, h.frozen 1⟩
  | n + 2, hj => (simp [rulesC, ruleC] at hj; omega)
set_option maxRecDepth 100000 in
set_option maxHeartbeats 1600000 in
theorem specCyclicSystem (n : Int) (w : World) :
    Calls Tryd.prog 8 #[.int .i64 n] w fun e w' => SysAns w (cycP n) e w' := by
  have b1 := bel1 w (.cells #[.int .i64 0, .slice none 0 0] 24)
  have HZ1 := Lib.hid (Blk.new1 w #[.int .i64 0, .slice none 0 0] 24)
  go_enter Tryd.func8, Tryd.ntmps8
  go_wp2_with fail
  by_cases hk : 1 ≤ n ∧ n ≤ 8
  case neg =>
    refine (l01In_no n 1 8 _ (by omega)).mono ?_
    rintro e w2 ⟨rfl, rfl⟩
    have He := Lib.hid (cycP_no hk)
    clear hk
    obtain ⟨z0, z1, zf0, zf1, zl⟩ := HZ1.out.two
    go_wp2_with fail
    refine bodyPost_ret (v := .tuple #[.agg #[.int .i64 0, .slice none 0 0], .bool false]) (by simp [results, Tryd.results8, go_sem, *]) rfl ?_
    rw [He.out]
    exact ⟨none, 0, rfl, Own.none_, b1⟩
  refine (l01In_yes n 1 8 _ hk.1 hk.2).mono ?_
  rintro e w2 ⟨rfl, rfl⟩
  obtain ⟨K, rfl⟩ : ∃ K : Nat, n = K := ⟨n.toNat, by omega⟩
  have hK1 : 1 ≤ K := by omega
  have hK8 : K ≤ 8 := by omega
  have He := Lib.hid (cycP_yes (n := K) (by omega))
  clear hk
  have hsa : aB.size = 1 := rfl
  have HP := Lib.hid (fun W => specPower_ok aB K W (by omega) (by omega) (by rw [hsa]; omega) (by omega))
  clear hsa
  go_wp2_with fail
  refine (HP.out _).mono ?_
  rintro e w3 ⟨rfl, rfl⟩
  generalize powS aB K = u at *
  have HZ2 := Lib.hid (HZ1.out.alloc (.cells #[.string u, .string ⟨#[]⟩] 44))
  have HB2 := Lib.hid (Blk.new2 w (.cells #[.int .i64 0, .slice none 0 0] 24) #[.string u, .string ⟨#[]⟩] 44)
  have b2 := bel2 w (.cells #[.int .i64 0, .slice none 0 0] 24) (.cells #[.string u, .string ⟨#[]⟩] 44)
  obtain ⟨z0, z1, zf0, zf1, zl⟩ := HZ2.out.two
  clear b1 HZ1
  go_wp2_with fail
  refine bodyPost_ret (v := .tuple #[.agg #[.int .i64 1, .slice (some ⟨w.heap.size + 1, 0, none⟩) 1 1], .bool true]) (by simp [results, Tryd.results8, go_sem, *]) rfl ?_
  rw [He.out]
  exact ⟨some ⟨w.heap.size + 1, 0, none⟩, 1, rfl, own_rule1 (Blk.new2 w _ _ _) (by omega), bel2 _ _ _⟩
set_option maxRecDepth 100000 in
set_option maxHeartbeats 3200000 in
theorem cycFn_any (p n : Nat) (w : World) (hP : Blk w p 3 #[.int .i64 (n : Int)]) (hn : n ≤ 8) (hL : Let w) :
    Calls Tryd.prog 27 #[.pointer (some ⟨p, 0, none⟩)] w fun e w' => e = .returned (ruleV (powS aB n, ⟨#[]⟩)) ∧ Below w.heap.size w w' := by
  have HL := Lib.hid (fun (w' : World) (hb : Below w.heap.size w w') => hL.keep hb (Nat.le_refl _))
  have HSt : Hid (∀ w', Below w.heap.size w w' → w'.cell? ⟨p, 0, none⟩ = some (.int .i64 (n : Int)) ∧ Below w.heap.size w w') :=
    fun w' hw => ⟨(hP.below hw hP.lt).cell 0, hw⟩
  have hd0 : Below w.heap.size w (w.alloc zRule).drew := (bel1 w _).drew
  have hd1 : Below w.heap.size w ((w.alloc zRule).drew.alloc (.cells #[.int .i64 0] 3)) := belK_alloc hd0 (Nat.le_refl _) _
  have hsz : (w.alloc zRule).drew.heap.size = w.heap.size + 1 := by show (w.alloc zRule).heap.size = _; simp
  have f1 := Blk.new1 (w.alloc zRule).drew #[.int .i64 ((0 : Nat) : Int)] 3
  rw [hsz] at f1
  have HS := Lib.hid (spelled_any _ 1 1 0 [0] _ (own_oneK f1) (one_ltK (by omega)) (by omega) (by omega) (HL.out _ hd1))
  rw [letW_aB] at HS
  have hsa : aB.size = 1 := rfl
  have HRp := Lib.hid (fun W => Tryd.strings_Repeat aB n W (by omega) (by rw [hsa]; omega))
  change Hid (∀ W, Calls _ _ _ W fun e w' => e = .returned (.string (powS aB n)) ∧ _) at HRp
  have HZ1 : Hid (Blk ((w.alloc zRule).drew.alloc (.cells #[.int .i64 0] 3)) w.heap.size 44 #[.string ⟨#[]⟩, .string ⟨#[]⟩]) := Blk.alloc (show Blk (w.alloc zRule).drew _ _ _ from Blk.new1 w _ _) _
  obtain ⟨s0, -⟩ := HSt.out _ hd0
  obtain ⟨u, hu⟩ : ∃ u, powS aB n = u := ⟨_, rfl⟩
  rw [hu] at HRp
  rw [hu]
  clear f1 hsz hP hL hu hsa
  go_enter Tryd.func27, Tryd.ntmps27
  go_wp2_with fail
  go_region_held3 (fun w' => w'.cell? ⟨p, 0, none⟩ = some (.int .i64 (n : Int)) ∧ Below w.heap.size w w')
    ((refine HSt.out _ ?_; first | exact hd0 | exact hd1 | exact b6 | exact (b6.setCell (Nat.le_refl _) _) | exact (b6.setCell (Nat.le_refl _) _).setCell (Nat.le_refl _) _))
    ((first
      | (go_at_call 29; refine HS.out.mono ?_; rintro e w5 ⟨rfl, rfl⟩)
      | (go_at_call 28; refine (HRp.out _).mono ?_; rintro e w6 ⟨rfl, hb6⟩; have b6 := hd1.trans (hb6.mono hd1.size); have HZ6 := Lib.hid (HZ1.out.below hb6 HZ1.out.lt); obtain ⟨z0, z1, zf0, zf1, zl⟩ := HZ6.out.two)))
  all_goals (
    go_wp2_with fail
    refine bodyPost_ret (v := ruleV (u, ⟨#[]⟩)) (by simp [results, Tryd.results27, go_sem, *]) rfl ⟨rfl, (b6.setCell (Nat.le_refl _) _).setCell (Nat.le_refl _) _⟩)
theorem cycMaker {w : World} {p n : Nat} (hP : Blk w p 3 #[.int .i64 (n : Int)]) (hn : n ≤ 8) :
    MakerOn w (.func (.func 27) #[] #[.pointer (some ⟨p, 0, none⟩)]) (powS aB n, ⟨#[]⟩) :=
  ⟨_, _, rfl, fun _ _ => by kernel_rfl, fun W hk hL => cycFn_any p n W (hk.blk (by decide) hP) hn hL⟩
set_option maxRecDepth 100000 in
set_option maxHeartbeats 1600000 in
theorem implCyclicSystem (n : Int) (w : World) (hL : Let w) :
    Calls Tryd.prog 9 #[.int .i64 n] w fun e w' => SysAns w (cycP n) e w' := by
  have HL := Lib.hid (fun (w' : World) (hb : Below w.heap.size w w') => hL.keep hb (Nat.le_refl _))
  clear hL
  by_cases hk : 1 ≤ n ∧ n ≤ 8
  case neg =>
    have He := Lib.hid (cycP_no hk)
    have hk2 : n < 1 ∨ 8 < n := by omega
    clear hk
    by_cases hk1 : n < 1
    · clear hk2
      go_enter Tryd.func9, Tryd.ntmps9
      go_wp2_with fail
      refine bodyPost_ret (v := .tuple #[.agg #[.int .i64 0, .slice none 0 0], .bool false]) (by simp [results, Tryd.results9, go_sem, *]) rfl ?_
      rw [He.out]
      exact ⟨none, 0, rfl, Own.none_, bel2 _ _ _⟩
    · have hk3 : 8 < n := by omega
      clear hk2
      go_enter Tryd.func9, Tryd.ntmps9
      go_wp2_with fail
      refine bodyPost_ret (v := .tuple #[.agg #[.int .i64 0, .slice none 0 0], .bool false]) (by simp [results, Tryd.results9, go_sem, *]) rfl ?_
      rw [He.out]
      exact ⟨none, 0, rfl, Own.none_, bel2 _ _ _⟩
  obtain ⟨K, rfl⟩ : ∃ K : Nat, n = K := ⟨n.toNat, by omega⟩
  have hK1 : 1 ≤ K := by omega
  have hK8 : K ≤ 8 := by omega
  have He := Lib.hid (cycP_yes (n := K) (by omega))
  clear hk
  have b3 := bel3 w (.cells #[.int .i64 (K : Int)] 3) zSys (.cells #[.func (.func 27) #[] #[.pointer (some ⟨w.heap.size, 0, none⟩)]] 83)
  have HP := Lib.hid (((Blk.new1 w #[.int .i64 (K : Int)] 3).alloc zSys).alloc (.cells #[.func (.func 27) #[] #[.pointer (some ⟨w.heap.size, 0, none⟩)]] 83))
  have HZ := Lib.hid ((Blk.new2 w (.cells #[.int .i64 (K : Int)] 3) #[.int .i64 0, .slice none 0 0] 24).alloc (.cells #[.func (.func 27) #[] #[.pointer (some ⟨w.heap.size, 0, none⟩)]] 83))
  have HF := Lib.hid (Blk.new3 w (.cells #[.int .i64 (K : Int)] 3) zSys #[.func (.func 27) #[] #[.pointer (some ⟨w.heap.size, 0, none⟩)]] 83)
  have hsz3 : (((w.alloc (.cells #[.int .i64 (K : Int)] 3)).alloc zSys).alloc (.cells #[.func (.func 27) #[] #[.pointer (some ⟨w.heap.size, 0, none⟩)]] 83)).heap.size = w.heap.size + 3 := by simp
  go_enter Tryd.func9, Tryd.ntmps9
  go_wp2_with fail
  change Below w.heap.size w (((w.alloc (.cells #[.int .i64 (K : Int)] 3)).alloc (.cells #[.int .i64 0, .slice none 0 0] 24)).alloc _) at b3
  change Hid (Blk (((w.alloc (.cells #[.int .i64 (K : Int)] 3)).alloc (.cells #[.int .i64 0, .slice none 0 0] 24)).alloc _) _ _ _) at HP
  change Hid (Blk (((w.alloc (.cells #[.int .i64 (K : Int)] 3)).alloc (.cells #[.int .i64 0, .slice none 0 0] 24)).alloc _) _ _ _) at HF
  change (((w.alloc (.cells #[.int .i64 (K : Int)] 3)).alloc (.cells #[.int .i64 0, .slice none 0 0] 24)).alloc _).heap.size = _ at hsz3
  generalize ((w.alloc (.cells #[.int .i64 (K : Int)] 3)).alloc (.cells #[.int .i64 0, .slice none 0 0] 24)).alloc (.cells #[.func (.func 27) #[] #[.pointer (some ⟨w.heap.size, 0, none⟩)]] 83) = w3 at *
  have HM : Makers 0 w3 (.slice (some ⟨w.heap.size + 1 + 1, 0, none⟩) 1 1) [(powS aB K, ⟨#[]⟩)] := by
    refine ⟨[.func (.func 27) #[] #[.pointer (some ⟨w.heap.size, 0, none⟩)]], ⟨rfl, _, 1, rfl, Nat.le_refl _, by unfold maxLen; omega, fun _ => ⟨w.heap.size + 1 + 1, 0, rfl, Nat.zero_le _, HF.out.lt, fun j hj => ?_⟩⟩, fun j f r h1 h2 => ?_⟩
    · match j, hj with
      | 0, _ => exact ⟨HF.out.cell 0, HF.out.frozen 0⟩
    · match j, h1, h2 with
      | 0, h1, h2 =>
        simp at h1 h2
        subst h1 h2
        exact (cycMaker HP.out hK8).at_ (HL.out _ b3)
      | n + 1, h1, _ => simp at h1
  have HMB := Lib.hid (madeBy_any 1 _ 1 1 0 [(powS aB K, ⟨#[]⟩)] w3 HM rfl (by omega))
  clear HM HP HF
  generalize powS aB K = u at *
  refine HMB.out.mono ?_
  rintro e w7 ⟨A7, c7, rfl, o7, hb7⟩
  have b7 := b3.trans (hb7.mono b3.size)
  have HZ7 := Lib.hid (HZ.out.below hb7 HZ.out.lt)
  have O7 := Lib.hid o7
  clear hb7 o7 HZ
  obtain ⟨z0, z1, zf0, zf1, zl⟩ := HZ7.out.two
  go_wp2_with fail
  refine bodyPost_ret (v := .tuple #[.agg #[.int .i64 1, .slice A7 1 c7], .bool true]) (by simp [results, Tryd.results9, go_sem, *]) rfl ?_
  rw [He.out]
  refine ⟨A7, c7, rfl, ?_, ?_⟩
  · exact ((O7.out.far (by show w.heap.size + 1 < w3.heap.size; omega) _).far (by show w.heap.size + 1 < w3.heap.size; omega) _).mono (by omega)
  · exact (b7.setCell (by show w.heap.size ≤ w.heap.size + 1; omega) _).setCell (by show w.heap.size ≤ w.heap.size + 1; omega) _
end Go.Proofs.YtlehdmflnglipaaDoor
