/- Both IsInterreduced; strings.Contains by the library's contract. -/
import Derived.Test.YtomejfebmibfjaaDoorInterPlain
import Derived.Test.YtomejfebmibfjaaDoorShelf
namespace Go.Proofs.YtomejfebmibfjaaDoor
open Go.RowKit

/-- The library's variable internal/bytealg.MaxLen holds some int. -/
def MaxLenIs (w : World) : Prop := ∃ m, w.cell? ⟨0, 0, none⟩ = some (.int .i64 m)
theorem MaxLenIs.keep {w w' : World} (h : MaxLenIs w) (hb : Below w.heap.size w w') : MaxLenIs w' := by
  obtain ⟨m, hm⟩ := h
  exact ⟨m, (hb.cell (World.block_lt_of_cell? w _ hm)).trans hm⟩
theorem maxLenIs_of {w : World} (h : w.ShapedOpen Tryd.prog) : MaxLenIs w := Tryd.laysM144.s1_3 w h
theorem contains_any (s p : ByteArray) (w : World) (hs : s.size ≤ 1048576) (hp : 0 < p.size) (hm : MaxLenIs w) :
    Calls Tryd.prog 68 #[.string s, .string p] w fun e w' => e = .returned (.bool (hasP s p)) ∧ w' = w := by
  obtain ⟨m, hm⟩ := hm
  rw [← contains_has s p hp]
  exact Tryd.strings_Contains s p m w (by omega) hm

set_option maxRecDepth 100000 in
set_option maxHeartbeats 3200000 in
theorem specIsInterreduced (k : Int) (A : Option Addr) (n c B : Nat) (l : List R) (w : World) (h : Own B w (.slice A n c) 2 n (rulesC l)) (hsm : smallR l) :
    Calls Tryd.prog 29 #[.agg #[.int .i64 k, .slice A n c]] w fun e w' => e = .returned (.bool (interS k l)) ∧ Below w.heap.size w w' := by
  have hmax := h.bound
  have hlen := h.rlen
  unfold maxLen at hmax
  have HO := Lib.hid h
  have Hlen := Lib.hid hlen
  have Hsm := Lib.hid hsm
  clear h hlen
  go_enter Tryd.func29, Tryd.ntmps29
  go_wp2_with fail
  refine (specSystemOk k _ _ _ B l _ (HO.out.below (bel1 _ _)) hsm).mono ?_
  rintro e w1 ⟨rfl, hb1⟩
  have HB1 := Lib.hid ((Blk.new1 w _ _).below hb1 (by simp))
  have hbw1 := (bel1 w _).trans (hb1.mono (by simp))
  have HO1 := Lib.hid ((HO.out.below (bel1 _ _)).below hb1)
  clear hb1 hsm
  obtain ⟨q0, q1, -, -, ql⟩ := HB1.out.two
  cases h1 : systemOk k l
  · have He := Lib.hid (systemOk_no h1)
    clear h1
    go_wp2_with fail
    go_ret
    exact ⟨ret_bool He.out.symm, hbw1⟩
  have Hk := Lib.hid h1
  clear h1
  go_wp2_with fail
  go_loopw [13] (fun i wr => ∃ q : Nat, i = .int .i64 q ∧ q ≤ n ∧ Hid (∀ i j, i < q → j < n → occR l i j = false) ∧ Below w1.heap.size w1 wr) (fun i _ => n - (intOf i).toNat)
  case atStart => exact ⟨0, rfl, Nat.zero_le _, Lib.hid (fun i j hi => absurd hi (Nat.not_lt_zero _)), Below.refl _ _⟩
  case round =>
    obtain ⟨q, rfl, hq, HN, hb⟩ := hrel
    have hbs := hb.size
    obtain ⟨q0, q1, -, -, ql⟩ := (HB1.out.below hb HB1.out.lt).two
    by_cases hqn : q < n
    · obtain ⟨g, off, c0, hv⟩ := HO1.out.formR (by omega)
      obtain ⟨rfl, rfl⟩ : A = some ⟨g, off, none⟩ ∧ c = c0 := by injection hv with a _ b; exact ⟨a, b⟩
      clear hv
      obtain ⟨-, hgl, ⟨u, v⟩, hr, x0, x1, -, -⟩ := (HO1.out.below hb).rule hqn
      have Hr := Lib.hid hr
      clear hr
      go_wp2_with fail
      have hbA := hb.alloc hbs (.cells #[.string u, .string v] 67)
      have XA := Lib.hid (Blk.new1 wr #[.string u, .string v] 67)
      clear hb q0 q1 ql x0 x1
      obtain ⟨d, hd⟩ : ∃ d, wr.heap.size = d := ⟨_, rfl⟩
      rw [hd] at XA ⊢
      clear hd
      generalize wr.alloc (.cells #[.string u, .string v] 67) = wa at *
      have hbas := hbA.size
      go_loopw [21] (fun i wx => ∃ j : Nat, i = .int .i64 j ∧ j ≤ n ∧ Hid (∀ j', j' < j → occR l q j' = false) ∧ Below wa.heap.size wa wx) (fun i _ => n - (intOf i).toNat)
      case atStart => exact ⟨0, rfl, Nat.zero_le _, Lib.hid (fun j' hi => absurd hi (Nat.not_lt_zero _)), Below.refl _ _⟩
      case round =>
        obtain ⟨j, rfl, hj, HM, hb2⟩ := hrel
        have hbs2 := hb2.size
        obtain ⟨d0, d1, -, -, dl⟩ := (XA.out.below hb2 XA.out.lt).two
        by_cases hlt : j < n
        · have hb3 := hbA.trans (hb2.mono hbas)
          obtain ⟨-, hgl, ⟨u', v'⟩, hr2, x0, x1, -, -⟩ := (HO1.out.below hb3).rule hlt
          have Hr2 := Lib.hid hr2
          clear hr2
          have hu' := (sysRule Hk.out (List.mem_of_getElem? Hr2.out))
          have hu := (sysRule Hk.out (List.mem_of_getElem? Hr.out))
          dsimp only at hu hu'
          have Ho := Lib.hid (occR_at Hr.out Hr2.out)
          have Hp1 := Lib.hid (hasP_len u u')
          have Hp2 := Lib.hid (hasP_len v u')
          have hbw := hbw1.trans (hb3.mono hbw1.size)
          have Hin : Hid (occR l q j = true → interS k l = false) := fun h => interS_no (by rw [Hlen.out]; exact hqn) (by rw [Hlen.out]; exact hlt) h
          have HM2 : Hid (occR l q j = false → ∀ j', j' < j + 1 → occR l q j' = false) := fun h j' hj' => by
            by_cases e : j' = j
            · subst e; exact h
            · exact HM.out j' (by omega)
          clear hb3
          by_cases hqj : q = j
          · subst hqj
            have hne : ((q : Int) != (q : Int)) = false := by simp
            have Ho2 : Hid (occR l q q = hasP v u') := by show _ = _; rw [Ho.out]; simp
            clear Ho
            go_wp2_with fail
            refine (specPlacesOf v u' _ (by omega) (by omega)).mono ?_
            rintro e w2 ⟨v0, rfl, o2, hb4⟩
            obtain ⟨A2, c2, rfl⟩ := o2.form
            have hb5 := (hb2.alloc hbs2 _).trans (hb4.mono (by simp; omega))
            have hb6 := (hbw.alloc hbw.size _).trans (hb4.mono (by have := hbw.size; simp; omega))
            clear o2 hb4 hb2
            generalize (placesOf v u').length = m at *
            cases h2 : hasP v u'
            · have hp2 := Hp2.out
              rw [h2] at hp2
              have HM3 := Lib.hid (HM2.out (Ho2.out.trans h2))
              have hm : ¬ (0 : Int) < m := of_decide_eq_false hp2
              clear h2 hp2
              go_wp2_with fail
              go_roundw
              case rel => exact ⟨q + 1, by go_num, by omega, HM3, hb5⟩
              case measure => simp [intOf]; omega
            · have hp2 := Hp2.out
              rw [h2] at hp2
              have HI := Lib.hid (Hin.out (Ho2.out.trans h2))
              have hm : (0 : Int) < m := of_decide_eq_true hp2
              clear h2 hp2
              go_wp2_with fail
              go_ret
              exact ⟨ret_bool HI.out.symm, hb6⟩
          · have hqj' : ¬ (q : Int) = (j : Int) := by omega
            have Ho2 : Hid (occR l q j = (hasP u u' || hasP v u')) := by show _ = _; rw [Ho.out]; simp [hqj]
            clear Ho
            go_wp2_with fail
            refine (specPlacesOf u u' _ (by omega) (by omega)).mono ?_
            rintro e w2 ⟨v0, rfl, o2, hb4⟩
            obtain ⟨A2, c2, rfl⟩ := o2.form
            have XA2 := Lib.hid (((XA.out.below hb2 XA.out.lt).alloc _).below hb4 (by have := XA.out.lt; simp; omega))
            have XB2 := Lib.hid ((Blk.new1 wr _ _).below hb4 (by simp))
            have hb5 := (hb2.alloc hbs2 _).trans (hb4.mono (by simp; omega))
            have hb6 := (hbw.alloc hbw.size _).trans (hb4.mono (by have := hbw.size; simp; omega))
            obtain ⟨d2, hd2⟩ : ∃ d, wr.heap.size = d := ⟨_, rfl⟩
            rw [hd2] at XB2 ⊢
            clear hd2 o2 hb4 hb2 d0 d1 dl x0 x1
            obtain ⟨d0, d1, -, -, dl⟩ := XA2.out.two
            obtain ⟨x0, x1, -, -, xl⟩ := XB2.out.two
            generalize (placesOf u u').length = m1 at *
            cases h1 : hasP u u'
            · have hp1 := Hp1.out
              rw [h1] at hp1
              have Ho3 : Hid (occR l q j = hasP v u') := by show _ = _; rw [Ho2.out, h1]; rfl
              have hm : ¬ (0 : Int) < m1 := of_decide_eq_false hp1
              clear h1 hp1
              go_wp2_with fail
              refine (specPlacesOf v u' _ (by omega) (by omega)).mono ?_
              rintro e w3 ⟨v0, rfl, o2, hb4⟩
              obtain ⟨A3, c3, rfl⟩ := o2.form
              have hb7 := hb5.trans (hb4.mono hb5.size)
              have hb8 := hb6.trans (hb4.mono hb6.size)
              clear o2 hb4
              generalize (placesOf v u').length = m at *
              cases h2 : hasP v u'
              · have hp2 := Hp2.out
                rw [h2] at hp2
                have HM3 := Lib.hid (HM2.out (Ho3.out.trans h2))
                have hm : ¬ (0 : Int) < m := of_decide_eq_false hp2
                clear h2 hp2
                go_wp2_with fail
                go_roundw
                case rel => exact ⟨j + 1, by go_num, by omega, HM3, hb7⟩
                case measure => simp [intOf]; omega
              · have hp2 := Hp2.out
                rw [h2] at hp2
                have HI := Lib.hid (Hin.out (Ho3.out.trans h2))
                have hm : (0 : Int) < m := of_decide_eq_true hp2
                clear h2 hp2
                go_wp2_with fail
                go_ret
                exact ⟨ret_bool HI.out.symm, hb8⟩
            · have hp1 := Hp1.out
              rw [h1] at hp1
              have HI := Lib.hid (Hin.out (Ho2.out.trans (by rw [h1]; rfl)))
              have hm : (0 : Int) < m1 := of_decide_eq_true hp1
              clear h1 hp1
              go_wp2_with fail
              go_ret
              exact ⟨ret_bool HI.out.symm, hb6⟩
        · obtain rfl : j = n := by omega
          have HN2 : Hid (∀ i j', i < q + 1 → j' < j → occR l i j' = false) := fun i j' hi hj' => by
            by_cases e : i = q
            · subst e; exact HM.out j' hj'
            · exact HN.out i j' (by omega) hj'
          have hb3 := hbA.trans (hb2.mono hbas)
          clear hb2
          go_wp2_with fail
          go_roundw
          case rel => exact ⟨q + 1, by go_num, by omega, HN2, hb3⟩
          case measure => simp [intOf]; omega
    · obtain rfl : q = n := by omega
      have HI := Lib.hid (interS_yes Hk.out (fun i j hi hj => HN.out i j (by rw [Hlen.out] at hi; exact hi) (by rw [Hlen.out] at hj; exact hj)))
      have hbw := hbw1.trans (hb.mono hbw1.size)
      clear hb
      go_wp2_with fail
      go_ret
      exact ⟨ret_bool HI.out.symm, hbw⟩
set_option maxRecDepth 100000 in
set_option maxHeartbeats 3200000 in
theorem occursInRule_any (k : Int) (A : Option Addr) (n c B : Nat) (l : List R) (i j : Nat) (r x : R) (w : World) (h : Own B w (.slice A n c) 2 n (rulesC l)) (hi : l[i]? = some r) (hj : l[j]? = some x) (hs : r.1.size ≤ 8 ∧ 0 < r.1.size) (hx : x.1.size ≤ 8 ∧ x.2.size ≤ 8) (hm : MaxLenIs w) :
    Calls Tryd.prog 50 #[.agg #[.int .i64 k, .slice A n c], .int .i64 i, .int .i64 j] w fun e w' => e = .returned (.bool (occR l j i)) ∧ Below w.heap.size w w' := by
  have hmax := h.bound
  have hin : i < n := by have := h.rlen; have := (List.getElem?_eq_some_iff.1 hi).1; omega
  have hjn : j < n := by have := h.rlen; have := (List.getElem?_eq_some_iff.1 hj).1; omega
  unfold maxLen at hmax
  have Ho := Lib.hid (occR_at hj hi)
  obtain ⟨g, off, c0, hv⟩ := h.formR (by omega)
  obtain ⟨rfl, rfl⟩ : A = some ⟨g, off, none⟩ ∧ c = c0 := by injection hv with a _ b; exact ⟨a, b⟩
  clear hv
  have h2 := h.below (bel1 w (.cells #[.int .i64 k, .slice (some ⟨g, off, none⟩) n c] 30))
  obtain ⟨-, hgl, ⟨u, v⟩, hr3, y0, y1, -, -⟩ := h2.rule hin
  obtain ⟨-, -, ⟨u', v'⟩, hr4, z0, z1, -, -⟩ := h2.rule hjn
  obtain rfl : r = (u, v) := by rw [hi] at hr3; exact Option.some.inj hr3
  obtain rfl : x = (u', v') := by rw [hj] at hr4; exact Option.some.inj hr4
  dsimp only at hs hx Ho
  have HM := Lib.hid (fun (w' : World) (hb : Below w.heap.size w w') => hm.keep hb)
  have h3 := h.below (bel2 w (.cells #[.int .i64 k, .slice (some ⟨g, off, none⟩) n c] 30) (.cells #[.string ⟨#[]⟩, .string ⟨#[]⟩] 67))
  obtain ⟨-, -, ⟨u0, v0⟩, hr5, y2, y3, -, -⟩ := h3.rule hin
  obtain ⟨-, -, ⟨u1, v1⟩, hr6, z2, z3, -, -⟩ := h3.rule hjn
  obtain ⟨rfl, rfl⟩ : u = u0 ∧ v = v0 := by rw [hi] at hr5; have h := Option.some.inj hr5; exact ⟨congrArg Prod.fst h, congrArg Prod.snd h⟩
  obtain ⟨rfl, rfl⟩ : u' = u1 ∧ v' = v1 := by rw [hj] at hr6; have h := Option.some.inj hr6; exact ⟨congrArg Prod.fst h, congrArg Prod.snd h⟩
  clear hr3 hr4 hr5 hr6 hi hj h h2 h3 hm
  go_enter Tryd.func50, Tryd.ntmps50
  go_wp2_with fail
  obtain ⟨q0, q1, -, -, ql⟩ := (Blk.new1 w #[.int .i64 k, .slice (some ⟨g, off, none⟩) n c] 30).two
  obtain ⟨s0, s1, -, -, sl⟩ := ((Blk.new1 w #[.int .i64 k, .slice (some ⟨g, off, none⟩) n c] 30).alloc (.cells #[.string ⟨#[]⟩, .string ⟨#[]⟩] 67)).two
  go_region
  clear q0 q1 ql s0 s1 sl y0 y1 y2 y3 z0 z1 z2 z3
  have b2 := (bel2 w (.cells #[.int .i64 k, .slice (some ⟨g, off, none⟩) n c] 30) (.cells #[.string u', .string v'] 67)).drew
  obtain ⟨x0, x1, -, -, xl⟩ := (Blk.new2 w (.cells #[.int .i64 k, .slice (some ⟨g, off, none⟩) n c] 30) #[.string u', .string v'] 67).two
  have x0' : ((w.alloc (.cells #[.int .i64 k, .slice (some ⟨g, off, none⟩) n c] 30)).alloc (.cells #[.string u', .string v'] 67)).drew.cell? ⟨w.heap.size + 1, 0, none⟩ = some (.string u') := x0
  have x1' : ((w.alloc (.cells #[.int .i64 k, .slice (some ⟨g, off, none⟩) n c] 30)).alloc (.cells #[.string u', .string v'] 67)).drew.cell? ⟨w.heap.size + 1, 1, none⟩ = some (.string v') := x1
  clear x0 x1
  generalize ((w.alloc (.cells #[.int .i64 k, .slice (some ⟨g, off, none⟩) n c] 30)).alloc (.cells #[.string u', .string v'] 67)).drew = w2 at *
  have HM2 := HM.out _ b2
  by_cases hij : i = j
  · subst hij
    have hne : ((i : Int) != (i : Int)) = false := by simp
    have Ho2 : Hid (occR l i i = hasP v' u) := by show _ = _; rw [Ho.out]; simp
    clear Ho
    go_wp2_with fail
    refine (contains_any v' u _ (by omega) (by omega) HM2).mono ?_
    rintro e w3 ⟨rfl, rfl⟩
    generalize hasP v' u = rr at *
    go_wp2_with fail
    go_ret
    exact ⟨ret_bool Ho2.out.symm, b2⟩
  · have hij' : ¬ (i : Int) = (j : Int) := by omega
    have Ho2 : Hid (occR l j i = (hasP u' u || hasP v' u)) := by show _ = _; rw [Ho.out]; simp [Ne.symm hij]
    clear Ho
    go_wp2_with fail
    refine (contains_any u' u _ (by omega) (by omega) HM2).mono ?_
    rintro e w3 ⟨rfl, rfl⟩
    cases h1 : hasP u' u
    · have Ho3 : Hid (occR l j i = hasP v' u) := by show _ = _; rw [Ho2.out, h1]; rfl
      go_wp2_with fail
      refine (contains_any v' u _ (by omega) (by omega) HM2).mono ?_
      rintro e w4 ⟨rfl, rfl⟩
      generalize hasP v' u = rr at *
      go_wp2_with fail
      go_ret
      exact ⟨ret_bool Ho3.out.symm, b2⟩
    · have Ho3 : Hid (occR l j i = true) := by show _ = _; rw [Ho2.out, h1]; rfl
      go_wp2_with fail
      go_ret
      exact ⟨ret_bool Ho3.out.symm, b2⟩
set_option maxRecDepth 100000 in
set_option maxHeartbeats 3200000 in
theorem implIsInterreduced (k : Int) (A : Option Addr) (n c B : Nat) (l : List R) (w : World) (h : Own B w (.slice A n c) 2 n (rulesC l)) (hsm : smallR l) (hlet : Let w) (hM : MaxLenIs w) :
    Calls Tryd.prog 30 #[.agg #[.int .i64 k, .slice A n c]] w fun e w' => e = .returned (.bool (interS k l)) ∧ Below w.heap.size w w' := by
  have hmax := h.bound
  have hlen := h.rlen
  unfold maxLen at hmax
  have HO := Lib.hid h
  have Hlen := Lib.hid hlen
  have HM := Lib.hid (fun (w' : World) (hb : Below w.heap.size w w') => hM.keep hb)
  have hlet1 := hlet.keep (bel1 w (.cells #[.int .i64 k, .slice A n c] 30)) (Nat.le_refl _)
  clear h hlen hlet hM
  go_enter Tryd.func30, Tryd.ntmps30
  go_wp2_with fail
  refine (implSystemOk k _ _ _ B l _ (HO.out.below (bel1 _ _)) hsm hlet1).mono ?_
  rintro e w1 ⟨rfl, hb1⟩
  have HB1 := Lib.hid ((Blk.new1 w _ _).below hb1 (by simp))
  have hbw1 := (bel1 w _).trans (hb1.mono (by simp))
  have HO1 := Lib.hid ((HO.out.below (bel1 _ _)).below hb1)
  clear hb1 hsm hlet1
  obtain ⟨q0, q1, -, -, ql⟩ := HB1.out.two
  cases h1 : systemOk k l
  · have He := Lib.hid (systemOk_no h1)
    clear h1
    go_wp2_with fail
    go_ret
    exact ⟨ret_bool He.out.symm, hbw1⟩
  have Hk := Lib.hid h1
  clear h1
  go_wp2_with fail
  go_loopw [11] (fun i wr => ∃ q : Nat, i = .int .i64 q ∧ q ≤ n ∧ Hid (∀ i j, i < q → j < n → occR l j i = false) ∧ Below w1.heap.size w1 wr) (fun i _ => n - (intOf i).toNat)
  case atStart => exact ⟨0, rfl, Nat.zero_le _, Lib.hid (fun i j hi => absurd hi (Nat.not_lt_zero _)), Below.refl _ _⟩
  case round =>
    obtain ⟨q, rfl, hq, HN, hb⟩ := hrel
    have hbs := hb.size
    obtain ⟨q0, q1, -, -, ql⟩ := (HB1.out.below hb HB1.out.lt).two
    by_cases hqn : q < n
    · go_wp2_with fail
      obtain ⟨w0, rfl⟩ : ∃ x : World, x = wr := ⟨_, rfl⟩
      go_loopw [17] (fun i wx => ∃ j : Nat, i = .int .i64 j ∧ j ≤ n ∧ Hid (∀ j', j' < j → occR l j' q = false) ∧ Below w1.heap.size w1 wx) (fun i _ => n - (intOf i).toNat)
      case atStart => exact ⟨0, rfl, Nat.zero_le _, Lib.hid (fun j' hi => absurd hi (Nat.not_lt_zero _)), hb⟩
      case round =>
        obtain ⟨j, rfl, hj, HX, hb2⟩ := hrel
        have hbs2 := hb2.size
        clear q0 q1 ql
        obtain ⟨q0, q1, -, -, ql⟩ := (HB1.out.below hb2 HB1.out.lt).two
        by_cases hlt : j < n
        · have hbw := hbw1.trans (hb2.mono hbw1.size)
          obtain ⟨rq, hqr⟩ : ∃ r, l[q]? = some r := ⟨l[q]'(by rw [Hlen.out]; exact hqn), List.getElem?_eq_getElem _⟩
          obtain ⟨rj, hjr⟩ : ∃ r, l[j]? = some r := ⟨l[j]'(by rw [Hlen.out]; exact hlt), List.getElem?_eq_getElem _⟩
          have hus := sysRule Hk.out (List.mem_of_getElem? hqr)
          have hus' := sysRule Hk.out (List.mem_of_getElem? hjr)
          go_wp2_with fail
          refine (occursInRule_any k A n c B l q j _ _ _ (HO1.out.below hb2) hqr hjr ⟨hus.1, hus.2.2⟩ ⟨hus'.1, hus'.2.1⟩ (HM.out _ hbw)).mono ?_
          rintro e w2 ⟨rfl, hb4⟩
          have hb5 := hb2.trans (hb4.mono hbs2)
          have hb6 := hbw.trans (hb4.mono hbw.size)
          clear hb4 hb2 hus hus' hqr hjr hbw
          cases h2 : occR l j q
          · have HX2 : Hid (∀ j', j' < j + 1 → occR l j' q = false) := fun j' hj' => by
              by_cases e : j' = j
              · subst e; exact h2
              · exact HX.out j' (by omega)
            clear h2
            go_wp2_with fail
            go_roundw
            case rel => exact ⟨j + 1, by go_num, by omega, HX2, hb5⟩
            case measure => simp [intOf]; omega
          · have HI := Lib.hid (interS_no (k := k) (by rw [Hlen.out]; exact hlt) (by rw [Hlen.out]; exact hqn) h2)
            clear h2
            go_wp2_with fail
            go_ret
            exact ⟨ret_bool HI.out.symm, hb6⟩
        · obtain rfl : j = n := by omega
          have HN2 : Hid (∀ i j', i < q + 1 → j' < j → occR l j' i = false) := fun i j' hi hj' => by
            by_cases e : i = q
            · subst e; exact HX.out j' hj'
            · exact HN.out i j' (by omega) hj'
          go_wp2_with fail
          go_roundw
          case rel => exact ⟨q + 1, by go_num, by omega, HN2, hb2⟩
          case measure => simp [intOf]; omega
    · obtain rfl : q = n := by omega
      have HI := Lib.hid (interS_yes Hk.out (fun i j hi hj => HN.out j i (by rw [Hlen.out] at hj; exact hj) (by rw [Hlen.out] at hi; exact hi)))
      have hbw := hbw1.trans (hb.mono hbw1.size)
      clear hb
      go_wp2_with fail
      go_ret
      exact ⟨ret_bool HI.out.symm, hbw⟩
end Go.Proofs.YtomejfebmibfjaaDoor
