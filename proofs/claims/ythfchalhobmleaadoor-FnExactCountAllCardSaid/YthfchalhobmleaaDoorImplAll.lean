/- CountAll. -/
import Derived.Test.YthfchalhobmleaaDoorImplLong
import Derived.Test.YthfchalhobmleaaDoorAllPlain
namespace Go.Proofs.YthfchalhobmleaaDoor
open Go.RowKit

set_option maxRecDepth 100000 in
set_option maxHeartbeats 1600000 in
theorem implCountAll (k : Int) (A : Option Addr) (n c B : Nat) (l : List R) (w : World) (h : Own B w (.slice A n c) 2 n (rulesC l)) (hsm : smallR l) (hlet : Let w) :
    Calls Tryd.prog 20 #[.agg #[.int .i64 k, .slice A n c]] w fun e w' => ∃ r : Int, e = .returned (.int .i64 r) ∧ Hid (AllRet k l r) ∧ Below w.heap.size w w' := by
  have HO := Lib.hid h
  have HL := Lib.hid hlet
  clear h hlet
  go_enter Tryd.func20, Tryd.ntmps20
  go_wp2_with fail
  refine (implLongestReduced k A n c B l _ (HO.out.below (bel1 w _)) hsm (HL.out.keep (bel1 w _) (Nat.le_refl _))).mono ?_
  rintro e w1 ⟨d, rfl, Hd, hb1⟩
  have b1 := (bel1 w _).trans (hb1.mono (by simp))
  have HS1 := Lib.hid ((Blk.new1 w #[.int .i64 k, .slice A n c] 25).below hb1 (by simp))
  clear hb1
  by_cases hd : d < 0
  · have HA : Hid (AllRet k l (-1)) := ⟨d, Hd.out, .inl ⟨hd, rfl⟩⟩
    go_wp2_with fail
    go_ret
    exact ⟨-1, rfl, HA, b1⟩
  · obtain ⟨dn, rfl⟩ : ∃ dn : Nat, d = dn := ⟨d.toNat, by omega⟩
    obtain ⟨h1, h2, h3⟩ := Hd.out.yes
    obtain ⟨k', rfl, hk1, hk4, h12, hl⟩ := systemOk_parts h1
    rw [Int.toNat_natCast] at h2 h3
    have H2 := Lib.hid h2
    have H3 := Lib.hid h3
    obtain ⟨s0, s1, -, -, sl⟩ := HS1.out.two
    clear h1 h2 h3
    go_wp2_with fail
    refine (languageOf_any k' A n c B l w1 (HO.out.below b1) (fun r hr => (hl r hr).1) h12 hk4 (HL.out.keep b1 (Nat.le_refl _))).mono ?_
    rintro e w2 ⟨gL, mA, Q, rfl, hL, hQ, hb2⟩
    have b2 := b1.trans (hb2.mono b1.size)
    have hdQ : dn ≤ 1000 := by
      have h4 := long_few hQ H2.out H3.out
      have h5 := hQ.len (fun r hr => (hl r hr).1) h12
      omega
    clear s0 s1 sl hd
    go_wp2_with fail
    refine (growth_any k' l _ gL mA 1000 dn Q w2 (fun r hr => (hl r hr).1) h12 hk4 hQ (HL.out.keep b2 (Nat.le_refl _)) hL hdQ).mono ?_
    rintro e w3 ⟨v, rfl, o3, hb3⟩
    have b3 := b2.trans (hb3.mono b2.size)
    obtain ⟨A3, c3, rfl⟩ := o3.form
    have HA : Hid (AllRet (k' : Int) l (Go.Proofs.YthfchalhobmleaaDoor.wr (sumC l k' (dn + 1)))) := ⟨dn, Hd.out, .inr ⟨dn, rfl, by rw [Int.toNat_natCast]⟩⟩
    have H3o := Lib.hid o3
    have Hz : Hid (Value.int .i64 0 = .int .i64 (Go.Proofs.YthfchalhobmleaaDoor.wr (sumC l k' 0))) := by show _ = _; rw [show sumC l k' 0 = 0 from rfl, wr_zero]
    clear o3 hb3 hL hQ Hd H2 H3 hb2
    go_wp2_with fail
    go_loopw [4, 16] (fun v4 v16 wx => ∃ q : Nat, v16 = .int .i64 q ∧ v4 = .int .i64 (Go.Proofs.YthfchalhobmleaaDoor.wr (sumC l k' q)) ∧ q ≤ dn + 1 ∧ wx = w3) (fun _ v16 _ => dn + 1 - (intOf v16).toNat)
    case atStart => exact ⟨0, rfl, Hz.out, Nat.zero_le _, rfl⟩
    case round =>
      clear Hz
      obtain ⟨q, rfl, rfl, hq, rfl⟩ := hrel
      by_cases hqo : q < dn + 1
      · obtain ⟨g8, o8, hA8, -, hg8, hc8⟩ := H3o.out.int (by omega)
        subst hA8
        obtain ⟨yv, hyv, z0, -⟩ := hc8 q hqo
        rw [growL_get l k' _ q (by omega)] at hyv
        injection hyv with hyv
        subst hyv
        have hwa := wr_add2 (sumC l k' q) (countN l k' q)
        rw [← sumC_step] at hwa
        have Hwa := Lib.hid (congrArg (Value.int .i64) hwa)
        clear hc8 hwa
        go_wp2_with fail
        go_roundw
        case rel => exact ⟨q + 1, by go_num, Hwa.out, by omega, trivial⟩
        case measure => simp [intOf]; omega
      · have hql : q = dn + 1 := by omega
        subst hql
        go_wp2_with fail
        go_ret
        exact ⟨_, rfl, HA, b3⟩
end Go.Proofs.YthfchalhobmleaaDoor
