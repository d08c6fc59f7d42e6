/- SameSystem: the program's and the model's. -/
import Derived.Test.YtpmghdecfpfahaaPlaceMap
import Derived.Maps.Ext
namespace Go.Proofs.Ytpmghdecfpfahaa
open Go.RowKit Go.Maps Go.WideShapes

theorem Own.intAt {B n g off c : Nat} {w : World} {p : List Nat} (h : Own B w (.slice (some ⟨g, off, none⟩) n c) 1 n (intsV p)) {j : Nat} (hj : j < n) : ∃ a : Nat, p[j]? = some a ∧ w.cell? ⟨g, off + j, none⟩ = some (.int .i64 (a : Int)) ∧ g < w.heap.size := by
  obtain ⟨h1, A', c', hv, hc, hm, h2⟩ := h
  obtain ⟨g', off', e, hg, hlt, r⟩ := h2 (by omega)
  have hA : A' = some ⟨g, off, none⟩ := by injection hv with a b d; exact a.symm
  rw [hA] at e
  obtain ⟨rfl, rfl⟩ : g = g' ∧ off = off' := by injection e with e; injection e with e1 e2; exact ⟨e1, e2⟩
  have hl : p.length = n := by simpa [intsV] using h1
  refine ⟨p[j]'(by omega), List.getElem?_eq_getElem (by omega), ?_, hlt⟩
  rw [(r j (by omega)).1]
  simp [intsV, hl, hj]
theorem Own.ilen {B n : Nat} {w : World} {v : Value} {p : List Nat} (h : Own B w v 1 n (intsV p)) : p.length = n := by have := h.1; simpa [intsV] using this
theorem take_ext {p q : List Nat} {j a b : Nat} (h : p.take j = q.take j) (h1 : p[j]? = some a) (h2 : q[j]? = some b) (e : a = b) : p.take (j + 1) = q.take (j + 1) := by
  have h3 := (List.getElem?_eq_some_iff.1 h1).1
  have h4 := (List.getElem?_eq_some_iff.1 h2).1
  rw [List.take_succ_eq_append_getElem h3, List.take_succ_eq_append_getElem h4, (List.getElem?_eq_some_iff.1 h1).2, (List.getElem?_eq_some_iff.1 h2).2, h, e]

set_option maxRecDepth 100000 in
set_option maxHeartbeats 1600000 in
theorem equalInts (A A' : Option Addr) (n n' c c' B B' : Nat) (p p' : List Nat) (w : World) (h : Own B w (.slice A n c) 1 n (intsV p)) (h' : Own B' w (.slice A' n' c') 1 n' (intsV p')) :
    Calls Try.prog 28 #[.slice A n c, .slice A' n' c'] w fun e w' => e = .returned (.bool (decide (p = p'))) ∧ ∃ m, w' = w.drewN m := by
  have hmax := h.bound
  have hmax' := h'.bound
  have hl := h.ilen
  have hl' := h'.ilen
  unfold maxLen at hmax hmax'
  by_cases hn : n = n'
  · subst hn
    have Hl := Lib.hid hl
    have Hl' := Lib.hid hl'
    have HO := Lib.hid h
    have HO' := Lib.hid h'
    clear hl hl' h h'
    go_enter Try.func28, Try.ntmps28
    go_wp2_with fail
    go_loopw [13] (fun i wr => ∃ j m : Nat, j ≤ n ∧ i = .int .i64 j ∧ Hid (p.take j = p'.take j) ∧ wr = w.drewN m) (fun i _ => n - (intOf i).toNat)
    case atStart => exact ⟨0, 0, Nat.zero_le _, rfl, rfl, rfl⟩
    case round =>
      obtain ⟨j, m, hj, rfl, HX, rfl⟩ := hrel
      by_cases hlt : j < n
      · obtain ⟨g, off, c0, hv⟩ := HO.out.formR (by omega)
        obtain ⟨rfl, rfl⟩ : A = some ⟨g, off, none⟩ ∧ c = c0 := by injection hv with a _ b; exact ⟨a, b⟩
        obtain ⟨g', off', c0', hv'⟩ := HO'.out.formR (by omega)
        obtain ⟨rfl, rfl⟩ : A' = some ⟨g', off', none⟩ ∧ c' = c0' := by injection hv' with a _ b; exact ⟨a, b⟩
        obtain ⟨a, ha, x0, -⟩ := HO.out.intAt hlt
        obtain ⟨b, hb, y0, -⟩ := HO'.out.intAt hlt
        have hlt0 : (0 : Int) ≤ (j : Int) := by omega
        have hlt1 : (j : Int) < (n : Int) := by omega
        clear hv hv'
        by_cases hab : a = b
        · have hq : ((a : Int) == (b : Int)) = true := by rw [hab]; simp
          have HX2 := Lib.hid (take_ext HX.out ha hb hab)
          clear ha hb hab
          go_wp2_with fail
          go_quiet (fail)
          all_goals go_wp2_with fail
          go_roundw
          case rel => exact ⟨j + 1, _, by omega, by go_num, HX2, rfl⟩
          case measure => simp [intOf]; omega
        · have hq : ((a : Int) == (b : Int)) = false := by rw [beq_eq_false_iff_ne]; omega
          have He := Lib.hid (show false = decide (p = p') by
            symm; rw [decide_eq_false_iff_not]; intro e; rw [e, hb] at ha; exact hab (Option.some.inj ha).symm)
          clear ha hb hab
          go_wp2_with fail
          go_quiet (fail)
          all_goals go_wp2_with fail
          go_ret
          exact ⟨ret_bool He.out, _, World.drewN_drewN _ _ _⟩
      · have He := Lib.hid (show true = decide (p = p') by
          have h1 := HX.out
          rw [List.take_of_length_le (by rw [Hl.out]; omega), List.take_of_length_le (by rw [Hl'.out]; omega)] at h1
          simp [h1])
        go_wp2_with fail
        go_ret
        exact ⟨ret_bool He.out, _, rfl⟩
  · have hq : ((n : Int) == (n' : Int)) = false := by rw [beq_eq_false_iff_ne]; omega
    have He := Lib.hid (show false = decide (p = p') by
      symm; rw [decide_eq_false_iff_not]; intro e; rw [e, hl'] at hl; exact hn hl.symm)
    clear hl hl' h h' hn
    go_enter Try.func28, Try.ntmps28
    go_wp2_with fail
    go_ret
    exact ⟨ret_bool He.out, 0, rfl⟩

def sameA (k k' : Int) (l l' : List R) : Bool := decide (k = k' ∧ l = l')
set_option maxRecDepth 100000 in
set_option maxHeartbeats 1600000 in
theorem specSameSystem (k k' : Int) (A A' : Option Addr) (n n' c c' B B' : Nat) (l l' : List R) (w : World) (h : Own B w (.slice A n c) 2 n (rulesC l)) (h' : Own B' w (.slice A' n' c') 2 n' (rulesC l')) :
    Calls Try.prog 18 #[.agg #[.int .i64 k, .slice A n c], .agg #[.int .i64 k', .slice A' n' c']] w fun e w' => e = .returned (.bool (sameA k k' l l')) ∧ Below w.heap.size w w' := by
  have hmax := h.bound
  have hmax' := h'.bound
  have hl := h.rlen
  have hl' := h'.rlen
  unfold maxLen at hmax hmax'
  by_cases hk : k = k'
  · subst hk
    by_cases hn : n = n'
    · subst hn
      have Hl := Lib.hid hl
      have Hl' := Lib.hid hl'
      have HO := Lib.hid h
      have HO' := Lib.hid h'
      clear hl hl' h h'
      go_enter Try.func18, Try.ntmps18
      go_wp2_with fail
      go_loopw [24] (fun i wr => ∃ j : Nat, j ≤ n ∧ i = .int .i64 j ∧ Hid (l.take j = l'.take j) ∧ Hid (Blk wr (w.heap.size + 1) 32 #[.int .i64 k, .slice A' n c']) ∧ Below w.heap.size w wr) (fun i _ => n - (intOf i).toNat)
      case atStart => exact ⟨0, Nat.zero_le _, rfl, rfl, Blk.new2 _ _ _ _, bel2 _ _ _⟩
      case round =>
        obtain ⟨j, hj, rfl, HX, HB, hb⟩ := hrel
        have hbs := hb.size
        obtain ⟨q0, q1, -, -, ql⟩ := HB.out.two
        by_cases hlt : j < n
        · obtain ⟨g, off, c0, hv⟩ := HO.out.formR (by omega)
          obtain ⟨rfl, rfl⟩ : A = some ⟨g, off, none⟩ ∧ c = c0 := by injection hv with a _ b; exact ⟨a, b⟩
          obtain ⟨g', off', c0', hv'⟩ := HO'.out.formR (by omega)
          obtain ⟨rfl, rfl⟩ : A' = some ⟨g', off', none⟩ ∧ c' = c0' := by injection hv' with a _ b; exact ⟨a, b⟩
          clear hv hv'
          obtain ⟨-, hgl, ⟨u, v⟩, hr, x0, x1, -, -⟩ := (HO.out.below hb).rule hlt
          obtain ⟨-, hgl', ⟨s, t⟩, hr', y0, y1, -, -⟩ := (HO'.out.below hb).rule hlt
          have hlt0 : (0 : Int) ≤ (j : Int) := by omega
          have hlt1 : (j : Int) < (n : Int) := by omega
          dsimp only at x0 x1 y0 y1
          have HB1 := Lib.hid (fun o m => Blk.drewN (HB.out.alloc o) m)
          have hbw1 := Lib.hid (fun o m => below_drewN (hb.alloc hb.size o) m)
          obtain ⟨p0, p1, -, -, pl1⟩ := (HB.out.alloc (.cells #[.string u, .string v] 34)).two
          have z0 : (wr.alloc (.cells #[.string u, .string v] 34)).cell? ⟨g', off' + j * 2, none⟩ = some (.string s) := (World.cell?_alloc_lt wr _ ⟨g', off' + j * 2, none⟩ hgl').trans y0
          have z1 : (wr.alloc (.cells #[.string u, .string v] 34)).cell? ⟨g', off' + j * 2 + 1, none⟩ = some (.string t) := (World.cell?_alloc_lt wr _ ⟨g', off' + j * 2 + 1, none⟩ hgl').trans y1
          cases hd : decide (u = s ∧ v = t)
          · have heq := fun w' => run_neqRule u v s t w'
            rw [hd] at heq
            have He := Lib.hid (show false = sameA k k l l' by
              symm; unfold sameA; rw [decide_eq_false_iff_not]; rintro ⟨-, e⟩
              rw [e, hr'] at hr
              injection hr with hr
              injection hr with e1 e2
              rw [decide_eq_false_iff_not] at hd
              exact hd ⟨e1.symm, e2.symm⟩)
            clear hd hr hr' HB hb q0 q1 ql
            go_wp2_with fail
            go_quiet (fail)
            all_goals go_wp2_with fail
            go_ret
            exact ⟨ret_bool He.out, hbw1.out _ _⟩
          · have heq := fun w' => run_neqRule u v s t w'
            rw [hd] at heq
            have HX2 : Hid (l.take (j + 1) = l'.take (j + 1)) := by
              rw [decide_eq_true_iff] at hd
              obtain ⟨rfl, rfl⟩ := hd
              show _ = _
              have h3 := (List.getElem?_eq_some_iff.1 hr)
              have h4 := (List.getElem?_eq_some_iff.1 hr')
              rw [List.take_succ_eq_append_getElem h3.1, List.take_succ_eq_append_getElem h4.1, h3.2, h4.2, HX.out]
            clear hd hr hr' HB hb q0 q1 ql
            go_wp2_with fail
            go_quiet (fail)
            all_goals go_wp2_with fail
            go_roundw
            case rel => exact ⟨j + 1, by omega, by go_num, HX2, HB1.out _ _, hbw1.out _ _⟩
            case measure => simp [intOf]; omega
        · have He := Lib.hid (show true = sameA k k l l' by
            have h1 := HX.out
            rw [List.take_of_length_le (by rw [Hl.out]; omega), List.take_of_length_le (by rw [Hl'.out]; omega)] at h1
            simp [sameA, h1])
          go_wp2_with fail
          go_ret
          exact ⟨ret_bool He.out, hb⟩
    · have hq : ((n : Int) == (n' : Int)) = false := by rw [beq_eq_false_iff_ne]; omega
      have He := Lib.hid (show false = sameA k k l l' by
        symm; unfold sameA; rw [decide_eq_false_iff_not]; rintro ⟨-, e⟩; rw [e, hl'] at hl; exact hn hl.symm)
      clear hl hl' h h' hn
      go_enter Try.func18, Try.ntmps18
      go_wp2_with fail
      go_ret
      exact ⟨ret_bool He.out, bel2 _ _ _⟩
  · have hq : (k == k') = false := by rw [beq_eq_false_iff_ne]; exact hk
    have He := Lib.hid (show false = sameA k k' l l' by
      symm; unfold sameA; rw [decide_eq_false_iff_not]; rintro ⟨e, -⟩; exact hk e)
    clear hl hl' h h' hk
    go_enter Try.func18, Try.ntmps18
    go_wp2_with fail
    go_ret
    exact ⟨ret_bool He.out, bel2 _ _ _⟩

theorem rulePlaces_ex (A : Option Addr) (n c B : Nat) (l : List R) (w : World) (h : Own B w (.slice A n c) 2 n (rulesC l)) (hsm : smallR l) (hn : n ≤ 1048576) :
    Calls Try.prog 27 #[.slice A n c] w fun e w' => ∃ b D V, e = .returned (.map (some b)) ∧ w.heap.size ≤ b ∧ PM (b + 1) w' b n (pl l) D V ∧ Below w.heap.size w w' :=
  (rulePlaces_any A n c B l w h hsm hn).mono (by rintro e w' ⟨D, V, rfl, h1, h2⟩; exact ⟨_, D, V, rfl, Nat.le_refl _, h1, h2⟩)

theorem msize_zero {D : DataW Value} (h : Maps.Canon D) : Maps.size D = 0 ↔ ∀ kl, Maps.has D kl = false := by
  obtain ⟨es, rfl, hr, hk⟩ := h
  constructor
  · intro e kl
    have : es = [] := List.eq_nil_of_length_eq_zero e
    subst this; rfl
  · intro h
    cases es with
    | nil => rfl
    | cons p r =>
      have := h p.1
      rw [Maps.has_eq, List.any_cons, WideAt.sameKey_self (hk p (by simp))] at this
      simp at this
/-- How far the walk over the one map has come, and what is left of the other. -/
def Inv (l l' : List R) (Ds Dt Dr : DataW Value) (left : Lit → Bool) : Prop :=
  (∀ kl, left kl = true → Maps.has Ds kl = true) ∧ (∀ kl, left kl = true → Dr.atKey kl nilD = Dt.atKey kl nilD) ∧
  (∀ r, small r → left (keyR r) = false → Maps.has Ds (keyR r) = true → Maps.has Dr (keyR r) = false ∧ pl l r = pl l' r) ∧
  (∀ kl, Maps.has Ds kl = false → Maps.has Dr kl = Maps.has Dt kl)
theorem Inv.start (l l' : List R) (Ds Dt : DataW Value) : Inv l l' Ds Dt Dt (Maps.has Ds) :=
  ⟨fun _ h => h, fun _ _ => rfl, fun r _ h h' => absurd (h.symm.trans h') (by simp), fun _ _ => rfl⟩
theorem Inv.step {l l' : List R} {Ds Dt Dr : DataW Value} {left : Lit → Bool} (h : Inv l l' Ds Dt Dr left) (r : R) (hr : small r) (hl : left (keyR r) = true) (hp : pl l r = pl l' r) :
    Inv l l' Ds Dt (Dr.del (keyR r)) (fun z => left z && !z.sameKey (keyR r)) := by
  obtain ⟨h1, h2, h3, h4⟩ := h
  have hk := keyR_isKey r hr
  have hne : ∀ kl, (left kl && !kl.sameKey (keyR r)) = true → left kl = true ∧ kl ≠ keyR r := fun kl h => by
    rw [Bool.and_eq_true] at h
    refine ⟨h.1, fun e => ?_⟩
    rw [e, WideAt.sameKey_self hk] at h
    simp at h
  refine ⟨fun kl h => h1 kl (hne kl h).1, fun kl h => ?_, fun x hx hlx hs => ?_, fun kl h => ?_⟩
  · rw [atKey_del_other (hne kl h).2]; exact h2 kl (hne kl h).1
  · by_cases e : keyR x = keyR r
    · rw [keyR_inj hx hr e]; exact ⟨has_del_same, hp⟩
    · rw [has_del_other e]
      dsimp only at hlx
      rw [sameKey_ne e] at hlx
      simp at hlx
      exact h3 x hx hlx hs
  · have e : kl ≠ keyR r := fun e => by rw [e, h1 _ hl] at h; cases h
    rw [has_del_other e]; exact h4 kl h
theorem Inv.done {l l' : List R} {Ds Dt Dr : DataW Value} {left : Lit → Bool} (h : Inv l l' Ds Dt Dr left) (hl : ∀ kl, left kl = false) (hsm : smallR l) (hsm' : smallR l') (hc : Maps.Canon Dr)
    (hs3 : ∀ kl, Maps.has Ds kl = true → ∃ r, small r ∧ kl = keyR r ∧ pl l r ≠ []) (hs4 : ∀ r, small r → pl l r ≠ [] → Maps.has Ds (keyR r) = true)
    (ht3 : ∀ kl, Maps.has Dt kl = true → ∃ r, small r ∧ kl = keyR r ∧ pl l' r ≠ []) (ht4 : ∀ r, small r → pl l' r ≠ [] → Maps.has Dt (keyR r) = true) :
    Maps.size Dr = 0 ↔ l = l' := by
  obtain ⟨h1, h2, h3, h4⟩ := h
  have hin : ∀ (l : List R), smallR l → ∀ r, pl l r ≠ [] → small r := fun l hsm r hp => by
    obtain ⟨i, hi⟩ := List.exists_mem_of_ne_nil _ hp
    have hz := hsm _ (List.mem_of_getElem? ((pl_mem l r i).1 hi))
    exact ⟨Nat.le_trans hz.1 (by unfold maxLen; omega), Nat.le_trans hz.2 (by unfold maxLen; omega)⟩
  rw [msize_zero hc]
  constructor
  · intro h0
    refine pl_ext l l' (fun r hp => ?_) (fun r hp hp' => ?_)
    · have hr := hin l hsm r hp
      exact (h3 r hr (hl _) (hs4 r hr hp)).2
    · have hr := hin l' hsm' r hp
      have hd := ht4 r hr hp
      cases hh : Maps.has Ds (keyR r)
      · rw [← h4 _ hh, h0] at hd; cases hd
      · obtain ⟨x, hx, e, hpx⟩ := hs3 _ hh
        rw [← keyR_inj hr hx e] at hpx
        exact hpx hp'
  · intro e kl
    cases hk : Maps.has Dr kl
    · rfl
    · exfalso
      cases hh : Maps.has Ds kl
      · rw [h4 _ hh] at hk
        obtain ⟨x, hx, ex, hp⟩ := ht3 _ hk
        rw [← e] at hp
        rw [ex, hs4 x hx hp] at hh
        cases hh
      · obtain ⟨x, hx, ex, -⟩ := hs3 _ hh
        rw [ex] at hk hh
        rw [(h3 x hx (hl _) hh).1] at hk
        cases hk

set_option maxRecDepth 100000 in
set_option maxHeartbeats 1600000 in
theorem implSameSystem (k k' : Int) (A A' : Option Addr) (n n' c c' B B' : Nat) (l l' : List R) (w : World) (h : Own B w (.slice A n c) 2 n (rulesC l)) (h' : Own B' w (.slice A' n' c') 2 n' (rulesC l'))
    (hsm : smallR l) (hsm' : smallR l') (hn : n ≤ 1048576) (hn' : n' ≤ 1048576) :
    Calls Try.prog 19 #[.agg #[.int .i64 k, .slice A n c], .agg #[.int .i64 k', .slice A' n' c']] w fun e w' => e = .returned (.bool (sameA k k' l l')) ∧ Below w.heap.size w w' := by
  have HO := Lib.hid h
  have HO' := Lib.hid h'
  have Hsm := Lib.hid hsm
  have Hsm' := Lib.hid hsm'
  by_cases hk : k = k'
  · subst hk
    clear h h' hsm hsm'
    go_enter Try.func19, Try.ntmps19
    go_wp2_with fail
    refine (rulePlaces_ex A' n' c' B' l' _ (HO'.out.below (bel2 _ _ _)) Hsm'.out hn').mono ?_
    rintro e w1 ⟨bt, Dt, Vt, rfl, hbt, HPt, hb1⟩
    have b1 := (bel2 w _ _).trans (hb1.mono (by simp; omega))
    have B1 := Lib.hid (((Blk.new1 w _ _).alloc _).below hb1 (by simp; omega))
    obtain ⟨p0, p1, -, -, pl1⟩ := B1.out.two
    have hs1 := hb1.size
    have hbs1 : w.heap.size + 1 + 1 ≤ bt := by simpa using hbt
    have Ht := Lib.hid HPt
    have Hb1 := Lib.hid b1
    clear HPt hb1 b1 hbt
    go_wp2_with fail
    refine (rulePlaces_ex A n c B l _ (HO.out.below Hb1.out) Hsm.out hn).mono ?_
    rintro e w2 ⟨bs, Ds, Vs, rfl, hbs, HPs, hb2⟩
    have HPt2 := Ht.out.below hb2
    have Hb2 := Lib.hid (Hb1.out.trans (hb2.mono Hb1.out.size))
    have hrt : bt < w1.heap.size := Ht.out.1.lt
    clear p0 p1
    go_wp2_with (at_range; refine wpList_range_own _ rfl _ 49 rfl 34 51 keyedRule Try.underlying49 sliceE bs n Ds rfl HPs.1 ?_; intro w3 hrg0 hg0 hs0)
    go_frame
    have hne : bt < bs := by omega
    have hbt2 : bt < w2.heap.size := HPt2.1.lt
    have Hs := Lib.hid HPs
    have Ht2 := Lib.hid HPt2
    have hg2 : w2.grownBy w3 (some bt) := hg0.but _
    have ht2 : w3.ownsMap Try.prog 34 sliceE bt n' Dt := Ht2.out.1.kept hg0 (by simp)
    clear HPs HPt2 hg0 hb2 hs1 hbs
    go_loopw [6] (fun _ wr => ∃ left cnt Dr, wr.ranges Try.prog 34 sliceE bs w2.heap.size n Ds left cnt ∧ wr.ownsMap Try.prog 34 sliceE bt n' Dr ∧ Hid (Inv l l' Ds Dt Dr left) ∧ w2.grownBy wr (some bt)) (fun _ wr => wr.rangeLeft bs w2.heap.size)
    case atStart => exact ⟨_, _, _, hrg0, ht2, Inv.start l l' Ds Dt, hg2⟩
    case round =>
      obtain ⟨left, cnt, Dr, hrg, hown, HI, hg⟩ := hrel
      go_wp2_with (at_next; go_loud (refine wpList_next_ranges _ rfl _ rfl 34 keyedRule sliceE ruleV (fun t : Option Addr × Nat × Nat => Value.slice t.1 t.2.1 t.2.2) (fun key kl hkey => by obtain ⟨x, -, e, -⟩ := key_inv _ _ hkey; exact ⟨x, e⟩) (fun v y hy => sliceE_inv hy) bs w2.heap.size n _ _ _ rfl hrg ?_ ?_))
      · intro hc0 hl0
        have hz := HI.out.done hl0 Hsm.out Hsm'.out (hown.canon keyedRule) Hs.out.2.2.1 Hs.out.2.2.2.1 Ht2.out.2.2.1 Ht2.out.2.2.2.1
        have hbw : Below w.heap.size w wr := Hb2.out.grown hg Hb2.out.size (fun k e => by injection e with e; omega)
        have Hbw := Lib.hid hbw
        by_cases he : Maps.size Dr = 0
        · have hq : ((Maps.size Dr : Int) == 0) = true := by rw [he]; rfl
          have He := Lib.hid (show true = sameA k k l l' by symm; unfold sameA; rw [decide_eq_true_iff]; exact ⟨rfl, hz.1 he⟩)
          clear hz he hbw HI hg
          go_wp2_with (at_len; refine wpList_len_own _ rfl _ 49 rfl 34 51 Try.underlying49 sliceE bt n' Dr rfl hown ?_)
          go_ret
          exact ⟨ret_bool He.out, Hbw.out⟩
        · have hq : ((Maps.size Dr : Int) == 0) = false := by rw [beq_eq_false_iff_ne]; omega
          have He := Lib.hid (show false = sameA k k l l' by symm; unfold sameA; rw [decide_eq_false_iff_not]; exact fun e => he (hz.2 e.2))
          clear hz he hbw HI hg
          go_wp2_with (at_len; refine wpList_len_own _ rfl _ 49 rfl 34 51 Try.underlying49 sliceE bt n' Dr rfl hown ?_)
          go_ret
          exact ⟨ret_bool He.out, Hbw.out⟩
      · intro u v a0 a1 a2 kl y1 y2 w4 cnt1 hkey hlx hy hat hrg1 hlt hg1 hs1 hen
        obtain ⟨x', hxs, ex, rfl⟩ := key_inv _ _ hkey
        obtain rfl : x' = (u, v) := by
          injection ex with ex
          injection ex with ex
          simp at ex
          exact (Prod.ext ex.1 ex.2).symm
        have hrS := Hs.out.2.2.2.2.2.1 _ hxs
        have hrT := Ht2.out.2.2.2.2.2.1 _ hxs
        have hvS := Hs.out.2.2.2.2.1 _ hxs
        have hvT := Ht2.out.2.2.2.2.1 _ hxs
        rw [hat nilD, show y1 = _ from sliceE_held hy] at hvS
        rw [← HI.out.2.1 _ hlx] at hvT
        obtain ⟨As, cs, hvs⟩ := (Own.of_row hrS).form
        obtain ⟨At, ct, hvt⟩ := (Own.of_row hrT).form
        rw [hvs] at hrS hvS
        rw [hvt] at hrT hvT
        obtain ⟨rfl, rfl, rfl⟩ : a0 = As ∧ (pl l (u, v)).length = a1 ∧ a2 = cs := by
          injection hvS with e
          injection e with e0 e1 e2
          exact ⟨e0, e1.symm, e2⟩
        have g4 : w2.grownBy w4 (some bt) := hg.andThen hg1 (fun j e => Or.inl (by injection e with e; omega))
        have hown4 : w4.ownsMap Try.prog 34 sliceE bt n' Dr := hown.kept hg1 (by intro e; injection e with e; omega)
        have hlook : (Instr.lookup 49 (.map (some bt)) (.agg #[.string u, .string v]) false).run Try.prog (w4.alloc (.cells #[.string u, .string v] 34)) = .ok (.slice At (pl l' (u, v)).length ct) (w4.alloc (.cells #[.string u, .string v] 34)) := by
          have ho : (w4.alloc (.cells #[.string u, .string v] 34)).ownsMap Try.prog 34 sliceE bt n' Dr := hown4.alloc _
          obtain ⟨v0, ps, hrun, hv⟩ := ho.lookup keyedRule Try.underlying49 (zeroSl _) (zd := nilD) (zp := []) rfl hkey
          have e := sliceE_held hv
          dsimp only at e
          rw [hvT] at e
          injection e with e
          rw [← e] at hrun
          exact hrun
        obtain ⟨z0, z1, -, -, zl⟩ := (Blk.new1 w4 #[.string u, .string v] 34).two
        change Sem.run _ (Instr.entry _) _ = .ok (.tuple #[.agg #[.string u, .string v], .slice a0 (pl l (u, v)).length a2]) _ at hen
        have g5 : w2.grownBy (w4.alloc (.cells #[.string u, .string v] 34)) (some bt) := g4.andThen (World.grownBy_alloc w4 _ none) (by simp)
        have oS := Own.of_row (hrS.kept g5 (own_ne_b hrS (by omega)))
        have oT := Own.of_row (hrT.kept g5 (own_ne_b hrT (by omega)))
        have hown5 := fun m => show ((w4.alloc (.cells #[.string u, .string v] 34)).drewN m).ownsMap Try.prog 34 sliceE bt n' Dr from hown4.alloc _
        have hrg5a : (w4.alloc (.cells #[.string u, .string v] 34)).ranges Try.prog 34 sliceE bs w2.heap.size n Ds (fun z => left z && !z.sameKey (keyR (u, v))) cnt1 := hrg1.kept (World.grownBy_alloc w4 _ none) (by simp) (by simp)
        have hrg5 := Lib.hid (fun m => show ((w4.alloc (.cells #[.string u, .string v] 34)).drewN m).ranges Try.prog 34 sliceE bs w2.heap.size n Ds (fun z => left z && !z.sameKey (keyR (u, v))) cnt1 from hrg5a)
        have Hleft := Lib.hid hrg.left_eq
        have G5 := Lib.hid g5
        have Hkey := Lib.hid hkey
        clear hrg5a hrg1 hrg g4 hown4 hvS hvT hvs hvt hrS hrT hat hy hown g5 hg hg1 ex hkey
        go_wp2_with fail
        refine (equalInts a0 At _ _ a2 ct (bs + 1) (bt + 1) _ _ _ oS oT).mono ?_
        rintro e w5 ⟨rfl, m, rfl⟩
        clear oS oT hlook hen
        by_cases hp : pl l (u, v) = pl l' (u, v)
        · rw [decide_eq_true hp]
          have HI2 := Lib.hid (HI.out.step (u, v) hxs hlx hp)
          clear hp
          go_wp2_with (at_delete; refine wpList_delete_own _ rfl _ _ 49 34 rfl 51 keyedRule Try.underlying49 sliceE bt n' Dr rfl (hown5 _) (ruleV (u, v)) _ rfl Hkey.out ?_; intro w6 hown6 ht6)
          have hrg6 := (hrg5.out m).kept ht6.grown (by intro e; injection e with e; omega) (by intro e; injection e with e; omega)
          have g6 : w2.grownBy w6 (some bt) := World.grownBy.andThen (show w2.grownBy ((w4.alloc (.cells #[.string u, .string v] 34)).drewN m) (some bt) from ⟨G5.out.os, G5.out.tape, G5.out.output, G5.out.size, G5.out.block⟩) ht6.grown (fun j e => Or.inr e)
          go_frame
          go_roundw
          case rel => exact ⟨_, _, _, hrg6, hown6, HI2, g6⟩
          case measure => rw [hrg6.left_eq, Hleft.out]; exact hlt
        · rw [decide_eq_false hp]
          have He := Lib.hid (show false = sameA k k l l' by symm; unfold sameA; rw [decide_eq_false_iff_not]; intro e; rw [e.2] at hp; exact hp rfl)
          have Hbw := Lib.hid (show Below w.heap.size w ((w4.alloc (.cells #[.string u, .string v] 34)).drewN m) from below_drewN (Hb2.out.grown G5.out Hb2.out.size (fun k e => by injection e with e; omega)) m)
          clear hp
          go_wp2_with fail
          go_ret
          exact ⟨ret_bool He.out, Hbw.out⟩
  · have hq : (k == k') = false := by rw [beq_eq_false_iff_ne]; exact hk
    have He := Lib.hid (show false = sameA k k' l l' by
      symm; unfold sameA; rw [decide_eq_false_iff_not]; rintro ⟨e, -⟩; exact hk e)
    clear h h' hk
    go_enter Try.func19, Try.ntmps19
    go_wp2_with fail
    go_ret
    exact ⟨ret_bool He.out, bel2 _ _ _⟩
end Go.Proofs.Ytpmghdecfpfahaa
