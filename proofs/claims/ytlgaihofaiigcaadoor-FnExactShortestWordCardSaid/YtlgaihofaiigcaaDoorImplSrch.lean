/- The program's ReachedBy, ShortestWord. -/
import Derived.Test.YtlgaihofaiigcaaDoorReach
import Derived.Test.YtlgaihofaiigcaaDoorImplConj
namespace Go.Proofs.YtlgaihofaiigcaaDoor
open Go.RowKit

theorem ret_sbW {r : ByteArray × Bool} {a : ByteArray} {b : Bool} (h : r = (a, b)) : Ending.returned (.tuple #[.string a, .bool b]) = .returned (.tuple #[.string r.1, .bool r.2]) := by rw [h]
theorem srchTo_pos (N : Nat) (xs : List Int) (I : List Nat) : ∀ a, 0 < (srchTo N xs I a).length
  | 0 => Nat.one_pos
  | a + 1 => by
    have ih := srchTo_pos N xs I a
    rw [srchTo]
    split
    · exact ih
    · obtain ⟨t, e⟩ := prodTo_pre (N := N) (xs := xs) (I := I) (srchTo N xs I a) (by assumption : VW).1 (by assumption : VW).2 I.length
      rw [e, List.length_append]; omega
theorem reachedBy_sort {N : Nat} {xs es : List Int} {I : List Nat} (h : Imgs N xs es I) : sortI (nints (valQ (srch N xs I))) = reachedBy N xs es := by
  rw [reachedBy_yes h, sort_valQ (srch_good h.tab h.lt)]; rfl
theorem idxI_get : ∀ {l : List Int} {v : Int}, 0 ≤ idxI l v → l[(idxI l v).toNat]? = some v
  | [], v, h => by simp [idxI] at h
  | a :: l, v, h => by
    unfold idxI at h ⊢
    by_cases e : a = v
    · rw [if_pos e]; simp [e]
    · rw [if_neg e] at h ⊢
      by_cases h2 : idxI l v < 0
      · rw [if_pos h2] at h; omega
      · rw [if_neg h2] at h ⊢
        have h3 := idxI_get (l := l) (v := v) (by omega)
        rw [show (idxI l v + 1).toNat = (idxI l v).toNat + 1 by omega, List.getElem?_cons_succ]
        exact h3
theorem valQ_get {Q : List VW} {j : Nat} {v : Int} (h : (nints (valQ Q))[j]? = some v) : ∃ x u, Q[j]? = some (x, u) ∧ v = (x : Nat) := by
  unfold nints valQ at h
  rw [List.getElem?_map, List.getElem?_map] at h
  cases hq : Q[j]? with
  | none => rw [hq] at h; simp at h
  | some p =>
    rw [hq] at h
    simp only [Option.map_some, Option.some.injEq] at h
    exact ⟨p.1, p.2, rfl, h.symm⟩
set_option maxRecDepth 100000 in
set_option maxHeartbeats 800000 in
theorem implReachedBy (q : Int) (A E : Option Addr) (n c m d B D : Nat) (xs es : List Int) (w : World) (h : Own B w (.slice A n c) 1 n (ints xs)) (hE : Own D w (.slice E m d) 1 m (ints es)) (_hn : n ≤ 1048576) (hm : m ≤ 1048576) (hlet : Let w) :
    Calls Tryd.prog 30 #[tabV q A n c, .slice E m d] w fun e w' => ∃ v, e = .returned v ∧ Own w.heap.size w' v 1 (reachedBy q xs es).length (ints (reachedBy q xs es)) ∧ Below w.heap.size w w' := by
  have HO := Lib.hid (h.below (bel1 w (.cells #[.int .i64 q, .slice A n c] 28)))
  have HE := Lib.hid (hE.below (bel1 w (.cells #[.int .i64 q, .slice A n c] 28)))
  have HL := Lib.hid (fun (w' : World) (hb : Below w.heap.size w w') => hlet.keep hb (Nat.le_refl _))
  clear h hE hlet
  go_enter Tryd.func30, Tryd.ntmps30
  go_wp2_with fail
  refine (meaningFrom_any q A E n c m d B D xs es _ HO.out HE.out hm).mono ?_
  rintro e w1 ⟨hp, hb1⟩
  have b1 := (bel1 w _).trans (hb1.mono (by simp))
  clear hb1 HO HE
  rcases hp with ⟨N, g, c1, A1, I, rfl, hI, rfl, hV⟩ | ⟨hi, rfl⟩
  · have HI := Lib.hid hI
    have HV := Lib.hid hV
    have Hs := Lib.hid (reachedBy_sort hI)
    clear hI hV
    go_wp2_with fail
    refine (reached_any g N _ _ c1 A1 xs I _ HV.out HI.out.tab HI.out.lt HI.out.hi rfl (HL.out _ b1)).mono ?_
    rintro e w2 ⟨vv, vw, rfl, hS, hb2⟩
    have b2 := b1.trans (hb2.mono b1.size)
    have hl : (srch N xs I).length ≤ 40 := by have := (srch_good HI.out.tab HI.out.lt).len; have := HI.out.tab.hi; omega
    obtain ⟨gc, cap, rfl, hgc, -⟩ := row_form hS.vs (srchTo_pos N xs I 40)
    have Hrl := Lib.hid (show (srch N xs I).length = (reachedBy N xs es).length by rw [← Hs.out, sortI_length, nints_length, valQ_length])
    have HR := Lib.hid hS.vs
    have hbs := b1.size
    clear hb2 hS
    generalize srch N xs I = Q at *
    go_wp2_with fail
    refine (sortInt_any gc cap Q.length _ _ _ HR.out (by omega)).mono ?_
    rintro e w3 ⟨rfl, hr3, hg3⟩
    rw [Hs.out] at hr3
    have HR3 := Lib.hid (Own.of_row hr3)
    rw [Hrl.out] at HR3
    have hb3 := below_own b2 hg3 (by omega)
    have HX := Lib.hid (HR3.out.mono hbs)
    clear hr3 hg3 HR HR3
    go_wp2_with fail
    go_ret
    exact ⟨_, rfl, by rw [← Hrl.out]; exact (by rw [← Hrl.out] at HX; exact HX.out), hb3⟩
  · have He := Lib.hid (reachedBy_no hi)
    clear hi
    go_wp2_with fail
    go_ret
    exact ⟨_, rfl, by rw [He.out]; exact Own.none_, b1⟩
set_option maxRecDepth 100000 in
set_option maxHeartbeats 1600000 in
theorem implShortestWord (q : Int) (A E : Option Addr) (n c m d B D : Nat) (xs es : List Int) (i : Int) (w : World) (h : Own B w (.slice A n c) 1 n (ints xs)) (hE : Own D w (.slice E m d) 1 m (ints es)) (_hn : n ≤ 1048576) (hm : m ≤ 1048576) (hlet : Let w) :
    Calls Tryd.prog 32 #[tabV q A n c, .slice E m d, .int .i64 i] w fun e w' => e = .returned (.tuple #[.string (shortestW q xs es i).1, .bool (shortestW q xs es i).2]) ∧ Below w.heap.size w w' := by
  have HO := Lib.hid (h.below (bel1 w (.cells #[.int .i64 q, .slice A n c] 28)))
  have HE := Lib.hid (hE.below (bel1 w (.cells #[.int .i64 q, .slice A n c] 28)))
  have HL := Lib.hid (fun (w' : World) (hb : Below w.heap.size w w') => hlet.keep hb (Nat.le_refl _))
  clear h hE hlet
  go_enter Tryd.func32, Tryd.ntmps32
  go_wp2_with fail
  refine (meaningFrom_any q A E n c m d B D xs es _ HO.out HE.out hm).mono ?_
  rintro e w1 ⟨hp, hb1⟩
  have b1 := (bel1 w _).trans (hb1.mono (by simp))
  clear hb1 HO HE
  rcases hp with ⟨N, g, c1, A1, I, rfl, hI, rfl, hV⟩ | ⟨hi, rfl⟩
  · have HI := Lib.hid hI
    have HV := Lib.hid hV
    clear hI hV
    go_wp2_with fail
    refine (reached_any g N _ _ c1 A1 xs I _ HV.out HI.out.tab HI.out.lt HI.out.hi rfl (HL.out _ b1)).mono ?_
    rintro e w2 ⟨vv, vw, rfl, hS, hb2⟩
    have b2 := b1.trans (hb2.mono b1.size)
    have HS := Lib.hid hS
    obtain ⟨A2, c2, rfl⟩ := (Own.of_row hS.vs).form
    obtain ⟨A3, c3, rfl⟩ := (Own.of_row hS.ws).form
    have Hno := Lib.hid (fun (hn : ¬ 0 ≤ idxI (nints (valQ (srch N xs I))) i) => show shortestW N xs es i = (⟨#[]⟩, false) by
      rw [idxI_mem] at hn
      by_cases hi : 0 ≤ i ∧ i < (N : Int)
      · obtain ⟨x, rfl⟩ : ∃ x : Nat, i = x := ⟨i.toNat, by omega⟩
        exact shortestW_none HI.out (by omega) (fun hx => hn (by unfold nints; exact List.mem_map_of_mem hx))
      · exact shortestW_out hi)
    have Hlong := Lib.hid (fun j x u (hj : (srch N xs I)[j]? = some (x, u)) (hu : 16 < u.length) => shortestW_long HI.out hj hu)
    have Hyes := Lib.hid (fun j x u (hj : (srch N xs I)[j]? = some (x, u)) (hu : u.length ≤ 16) => shortestW_yes HI.out hj hu)
    have Hg := Lib.hid (srch_good HI.out.tab HI.out.lt)
    have h40 := HI.out.tab.hi
    clear hb2 hS HV
    generalize srch N xs I = Q at *
    go_wp2_with fail
    refine (indexInt_any A2 Q.length c2 _ i (nints (valQ Q)) _ (Own.of_row HS.out.vs)).mono ?_
    rintro e w3 ⟨rfl, rfl⟩
    by_cases hidx : 0 ≤ idxI (nints (valQ Q)) i
    · have hget := idxI_get hidx
      generalize idxI (nints (valQ Q)) i = J at *
      obtain ⟨j, rfl⟩ : ∃ j : Nat, J = j := ⟨J.toNat, by omega⟩
      rw [Int.toNat_natCast] at hget
      obtain ⟨x, u, hj, rfl⟩ := valQ_get hget
      obtain ⟨g1, o1, d1, g2, o2, d2, e1, e2, hjl, x1, x2⟩ := HS.out.at_ hj
      injection e2 with e2 _ e3
      subst e2 e3
      have hul := Hg.out.ln _ _ hj
      have hql := Hg.out.len
      have hus : (bytesOf u).size = u.length := bytesOf_size u
      have hul2 : u.length ≤ j := hul
      by_cases hu : u.length ≤ 16
      · have He := Lib.hid (Hyes.out j x u hj hu)
        generalize bytesOf u = ub at *
        have hus2 : ub.size ≤ 16 := by omega
        clear hget hj x1 hul e1
        go_wp2_with fail
        go_ret2
        exact ⟨ret_sbW He.out, b2⟩
      · have He := Lib.hid (Hlong.out j x u hj (by omega))
        generalize bytesOf u = ub at *
        have hus2 : ¬ ub.size ≤ 16 := by omega
        clear hget hj x1 hul e1
        go_wp2_with fail
        go_ret2
        exact ⟨ret_sbW He.out, b2⟩
    · have He := Lib.hid (Hno.out (by omega))
      generalize idxI (nints (valQ Q)) i = J at *
      go_wp2_with fail
      go_ret2
      exact ⟨ret_sbW He.out, b2⟩
  · have He := Lib.hid (shortestW_no (i := i) hi)
    clear hi
    go_wp2_with fail
    go_ret2
    exact ⟨ret_sbW He.out, b1⟩
end Go.Proofs.YtlgaihofaiigcaaDoor
