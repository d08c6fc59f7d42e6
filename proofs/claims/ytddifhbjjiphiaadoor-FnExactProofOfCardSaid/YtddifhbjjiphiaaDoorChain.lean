/- Chains of links: both ChainOf. -/
import Derived.Test.YtddifhbjjiphiaaDoorLinkStep
import Derived.Test.YtddifhbjjiphiaaDoorSpecSteps
import Derived.Test.YtddifhbjjiphiaaDoorRunSteps
import Derived.Test.YtddifhbjjiphiaaDoorStrs
import Derived.Deep.RegionHeld3
namespace Go.Proofs.YtddifhbjjiphiaaDoor
open Go.RowKit

/-- The words of a chain, if each link can be applied. -/
def chainL (k : Int) (l : List R) : ByteArray → List LK → Option (List ByteArray)
  | s, [] => some [s]
  | s, x :: xs => if (linkS k l s x).2 then (chainL k l (linkS k l s x).1 xs).map (s :: ·) else none
def chainS (k : Int) (l : List R) (s : ByteArray) (xs : List LK) : List ByteArray × Bool :=
  if xs.length ≤ 200 then (match chainL k l s xs with | some L => (L, true) | none => ([], false)) else ([], false)
theorem chainL_len (k : Int) (l : List R) : ∀ (xs : List LK) (s : ByteArray) (L : List ByteArray), chainL k l s xs = some L → L.length = xs.length + 1
  | [], s, L, h => by simp only [chainL, Option.some.injEq] at h; subst h; rfl
  | x :: xs, s, L, h => by
    rw [chainL] at h
    split at h
    · obtain ⟨M, hM, rfl⟩ := Option.map_eq_some_iff.1 h
      simp only [List.length_cons]; rw [chainL_len k l xs _ M hM]
    · cases h
theorem chainL_small (k : Int) (l : List R) : ∀ (xs : List LK) (s : ByteArray) (L : List ByteArray), s.size ≤ 1048576 → chainL k l s xs = some L → ∀ u ∈ L, u.size ≤ 1048576
  | [], s, L, hs, h => by simp only [chainL, Option.some.injEq] at h; subst h; intro u hu; rw [List.mem_singleton] at hu; subst hu; exact hs
  | x :: xs, s, L, hs, h => by
    rw [chainL] at h
    split at h
    · obtain ⟨M, hM, rfl⟩ := Option.map_eq_some_iff.1 h
      intro u hu
      rcases List.mem_cons.1 hu with rfl | hu
      · exact hs
      · exact chainL_small k l xs _ M (linkS_size k l s x) hM u hu
    · cases h
/-- What is done (pre, then cur) and what is left. -/
def ChainAt (k : Int) (l : List R) (s : ByteArray) (xs : List LK) (j : Nat) (pre : List ByteArray) (cur : ByteArray) : Prop := pre.length = j ∧ chainL k l s xs = (chainL k l cur (xs.drop j)).map (pre ++ ·)
theorem ChainAt.start (k : Int) (l : List R) (s : ByteArray) (xs : List LK) : ChainAt k l s xs 0 [] s := ⟨rfl, by rw [List.drop_zero]; cases chainL k l s xs <;> rfl⟩
theorem ChainAt.no {k : Int} {l : List R} {s : ByteArray} {xs : List LK} {j : Nat} {pre : List ByteArray} {cur : ByteArray} {x : LK} (h : ChainAt k l s xs j pre cur) (hx : xs[j]? = some x) (h2 : (linkS k l cur x).2 = false) : chainL k l s xs = none := by
  rw [h.2, drop_step xs j _ hx, chainL, h2]; rfl
theorem ChainAt.step {k : Int} {l : List R} {s : ByteArray} {xs : List LK} {j : Nat} {pre : List ByteArray} {cur : ByteArray} {x : LK} (h : ChainAt k l s xs j pre cur) (hx : xs[j]? = some x) (h2 : (linkS k l cur x).2 = true) : ChainAt k l s xs (j + 1) (pre ++ [cur]) (linkS k l cur x).1 := by
  refine ⟨by rw [List.length_append, h.1]; rfl, ?_⟩
  rw [h.2, drop_step xs j _ hx, chainL, h2, if_pos rfl]
  cases chainL k l (linkS k l cur x).1 (xs.drop (j + 1)) <;> simp
theorem ChainAt.stop {k : Int} {l : List R} {s : ByteArray} {xs : List LK} {j : Nat} {pre : List ByteArray} {cur : ByteArray} (h : ChainAt k l s xs j pre cur) (hj : xs.length ≤ j) : chainL k l s xs = some (pre ++ [cur]) := by
  rw [h.2, List.drop_of_length_le hj]; rfl
theorem chainS_none {k : Int} {l : List R} {s : ByteArray} {xs : List LK} (h : 200 < xs.length ∨ chainL k l s xs = none) : chainS k l s xs = ([], false) := by
  unfold chainS
  rcases h with h | h
  · rw [if_neg (by omega)]
  · rw [h]; split <;> rfl
theorem chainS_some {k : Int} {l : List R} {s : ByteArray} {xs : List LK} {L : List ByteArray} (h1 : xs.length ≤ 200) (h : chainL k l s xs = some L) : chainS k l s xs = (L, true) := by
  unfold chainS
  rw [if_pos h1, h]
theorem chainS_yes {k : Int} {l : List R} {s : ByteArray} {xs : List LK} (h : (chainS k l s xs).2 = true) : xs.length ≤ 200 ∧ chainL k l s xs = some (chainS k l s xs).1 := by
  by_cases h1 : xs.length ≤ 200
  · cases hc : chainL k l s xs with
    | none => rw [chainS_none (.inr hc)] at h; cases h
    | some L => rw [chainS_some h1 hc]; exact ⟨h1, rfl⟩
  · rw [chainS_none (.inl (by omega))] at h; cases h
theorem chainS_len (k : Int) (l : List R) (s : ByteArray) (xs : List LK) : (chainS k l s xs).1.length ≤ 201 := by
  cases h : (chainS k l s xs).2 with
  | true => obtain ⟨h1, h2⟩ := chainS_yes h; have := chainL_len k l xs s _ h2; omega
  | false =>
    unfold chainS at h ⊢
    by_cases h1 : xs.length ≤ 200
    · rw [if_pos h1] at h ⊢
      cases hc : chainL k l s xs with
      | none => simp
      | some L => rw [hc] at h; cases h
    · rw [if_neg h1]; simp
theorem ret_vb {v v' : Value} {a b : Bool} (h : v = v') (h2 : a = b) : Ending.returned (.tuple #[v, .bool a]) = .returned (.tuple #[v', .bool b]) := by rw [h, h2]
theorem strs_append (a b : List ByteArray) : strs (a ++ b) = strs a ++ strs b := by simp [strs]

set_option maxRecDepth 100000 in
set_option maxHeartbeats 1600000 in
theorem specChainOf (k : Int) (A A' : Option Addr) (n c B m c' B' : Nat) (l : List R) (s : ByteArray) (xs : List LK) (w : World) (h : Own B w (.slice A n c) 2 n (rulesC l)) (hsm : smallR l) (hs : s.size ≤ 1048576) (hX : Own B' w (.slice A' m c') 3 m (linksC xs)) :
    Calls Tryd.prog 16 #[.agg #[.int .i64 k, .slice A n c], .string s, .slice A' m c'] w fun e w' => ∃ v, e = .returned (.tuple #[v, .bool (chainS k l s xs).2]) ∧ Own w.heap.size w' v 1 (chainS k l s xs).1.length (strs (chainS k l s xs).1) ∧ Below w.heap.size w w' := by
  obtain ⟨i0, hi, hz0, hz1, hz2⟩ := info_parts infoStr
  have HO := Lib.hid h
  have HX := Lib.hid hX
  have Hlen := Lib.hid hX.llen
  have hmax := hX.bound
  unfold maxLen at hmax
  clear h hX
  by_cases hbig : 200 < m
  · have HF : Hid (chainS k l s xs = ([], false)) := chainS_none (.inl (by rw [Hlen.out]; omega))
    go_enter Tryd.func16, Tryd.ntmps16
    go_wp2_with fail
    go_ret2
    exact ⟨.slice none 0 0, ret_vb rfl (by rw [HF.out]), by rw [HF.out]; exact Own.none_, bel1 _ _⟩
  have Hlx : Hid (xs.length ≤ 200) := by show _ ≤ _; rw [Hlen.out]; omega
  have HR0 : Hid (((w.alloc (.cells #[.int .i64 k, .slice A n c] 32)).alloc (.cells #[.string s] 9)).ownsRow (w.heap.size + 1) 9 1 (.slice (some ⟨w.heap.size + 1, 0, none⟩) 1 1) 1 (strs [s])) := by
    have := World.ownsRow_lit (e := 9) (base := w.heap.size + 1) (size := 1) (w.alloc (.cells #[.int .i64 k, .slice A n c] 32)) #[.string s] 1 (by simp) (by unfold maxLen; omega) rfl
    show World.ownsRow _ _ _ _ _ _ _
    simpa [strs] using this
  go_enter Tryd.func16, Tryd.ntmps16
  go_wp2_with fail
  go_loopw [1, 8, 20] (fun cv o i wr => ∃ (j : Nat) (pre : List ByteArray) (cur : ByteArray), j ≤ m ∧ i = .int .i64 j ∧ cv = .string cur ∧ cur.size ≤ 1048576 ∧ Hid (ChainAt k l s xs j pre cur) ∧ Hid (wr.ownsRow (w.heap.size + 1) 9 1 o (j + 1) (strs (pre ++ [cur]))) ∧ Hid (Blk wr w.heap.size 32 #[.int .i64 k, .slice A n c]) ∧ Below w.heap.size w wr ∧ w.heap.size + 1 ≤ wr.heap.size) (fun _ _ i _ => m - (intOf i).toNat)
  case atStart => exact ⟨0, [], s, Nat.zero_le _, rfl, rfl, hs, ChainAt.start k l s xs, HR0, (Blk.new1 _ _ _).alloc _, bel2 _ _ _, by simp⟩
  case round =>
    obtain ⟨j, pre, cur, hj, rfl, rfl, hcs, HC, HR, HB, hb, hsz⟩ := hrel
    have hbs := hb.size
    obtain ⟨q0, q1, -, -, ql⟩ := HB.out.two
    by_cases hlt : j < m
    · obtain ⟨g, off, c0, hv⟩ := HX.out.formR (by omega)
      obtain ⟨rfl, rfl⟩ : A' = some ⟨g, off, none⟩ ∧ c' = c0 := by injection hv with a _ b; exact ⟨a, b⟩
      clear hv
      obtain ⟨-, hgl, ⟨x, y, z⟩, hr, x0, x1, x2, -, -, -⟩ := (HX.out.below hb).link hlt
      have Hr := Lib.hid hr
      have hasz := linkS_size k l cur (x, y, z)
      clear hr
      dsimp only at x0 x1 x2
      go_wp2_with fail
      have b2 := hb.alloc hbs (.cells #[.int .i64 x, .int .i64 y, .bool z] 34)
      have HB2 := Lib.hid (HB.out.alloc (.cells #[.int .i64 x, .int .i64 y, .bool z] 34))
      have HR2 := Lib.hid (HR.out.alloc (.cells #[.int .i64 x, .int .i64 y, .bool z] 34))
      have hsz2 : w.heap.size + 1 ≤ (wr.alloc (.cells #[.int .i64 x, .int .i64 y, .bool z] 34)).heap.size := by simp; omega
      clear hb HB x0 x1 x2 q0 q1 ql HR
      generalize wr.alloc (.cells #[.int .i64 x, .int .i64 y, .bool z] 34) = w2 at *
      refine (specApplyLink k A n c B l cur x y z _ (HO.out.below b2) hsm hcs).mono ?_
      rintro e w3 ⟨rfl, hb3⟩
      have b3 := b2.trans (hb3.mono b2.size)
      have HB3 := Lib.hid (HB2.out.below hb3 HB2.out.lt)
      have HR3 := Lib.hid (ownsRow_below HR2.out hb3)
      have hsz3 := Nat.le_trans hsz2 hb3.size
      clear hb3 HB2 b2 HR2
      cases h2 : (linkS k l cur (x, y, z)).2
      · have HF : Hid (chainS k l s xs = ([], false)) := chainS_none (.inr (HC.out.no Hr.out h2))
        clear h2
        generalize (linkS k l cur (x, y, z)).1 = nx at *
        go_wp2_with fail
        go_ret2
        exact ⟨.slice none 0 0, ret_vb rfl (by rw [HF.out]), by rw [HF.out]; exact Own.none_, b3⟩
      · have HC2 := Lib.hid (HC.out.step Hr.out h2)
        clear h2 HC
        generalize (linkS k l cur (x, y, z)).1 = nx at *
        go_wp2_with (at_builtin; refine wpList_append_own _ rfl _ _ 40 rfl (w.heap.size + 1) 9 i0 (.string ⟨#[]⟩) 1 16 Tryd.underlying40 hi hz0 hz1 hz2 rfl (by decide) _ _ _ rfl (HR3.out.alloc _) ⟨w3.heap.size, 0, none⟩ 1 1 [.string nx] rfl rfl ?c1 ?c2 ?c3 ?c4 ?c5 ?_)
        case c1 =>
          intro j u hj
          match j, hj with
          | 0, hj => simp at hj; subst hj; simp [Addr.add]
        case c2 => intro u hu; simp at hu; subst hu; rfl
        case c3 => unfold maxLen; omega
        case c4 => omega
        case c5 => simp; omega
        intro v' w6 hown' hgrow _
        have hown2 : w6.ownsRow (w.heap.size + 1) 9 1 v' (j + 1 + 1) (strs ((pre ++ [cur]) ++ [nx])) := by
          rw [strs_append (pre ++ [cur])]
          exact hown'
        have hbw6 : Below w.heap.size w w6 := grown_one HR3.out hgrow b3 (by omega) (by omega)
        have HB6 : Hid (Blk w6 w.heap.size 32 #[.int .i64 k, .slice A n c]) := (grown_block HR3.out hgrow (by omega) (by omega)).trans HB3.out
        have hs6 := hgrow.size
        simp at hs6
        have HR6 := Lib.hid hown2
        clear hown' hgrow hown2 HR3 HB3 b3
        go_wp2_with fail
        go_roundw
        case rel => exact ⟨j + 1, _, nx, by omega, by go_num, rfl, hasz, HC2, HR6, HB6, hbw6, by omega⟩
        case measure => simp [intOf]; omega
    · obtain rfl : j = m := by omega
      have hst := HC.out.stop (by rw [Hlen.out]; exact Nat.le_refl _)
      have HF : Hid (chainS k l s xs = (pre ++ [cur], true)) := chainS_some Hlx.out hst
      have hpl : (pre ++ [cur]).length = j + 1 := by have := HC.out.1; simp; omega
      obtain ⟨A6, c6, hv6⟩ := (Own.of_row HR.out).form
      subst hv6
      go_wp2_with fail
      go_ret2
      exact ⟨.slice A6 (j + 1) c6, ret_vb rfl (by rw [HF.out]), by rw [HF.out]; dsimp only; rw [hpl]; exact (Own.of_row HR.out).mono (by omega), hb⟩

set_option maxRecDepth 100000 in
set_option maxHeartbeats 1600000 in
theorem implChainOf (k : Int) (A A' : Option Addr) (n c B m c' B' : Nat) (l : List R) (s : ByteArray) (xs : List LK) (w : World) (h : Own B w (.slice A n c) 2 n (rulesC l)) (hsm : smallR l) (hs : s.size ≤ 1048576) (hX : Own B' w (.slice A' m c') 3 m (linksC xs)) (hlet : Let w) :
    Calls Tryd.prog 18 #[.agg #[.int .i64 k, .slice A n c], .string s, .slice A' m c'] w fun e w' => ∃ v, e = .returned (.tuple #[v, .bool (chainS k l s xs).2]) ∧ Own w.heap.size w' v 1 (chainS k l s xs).1.length (strs (chainS k l s xs).1) ∧ Below w.heap.size w w' := by
  obtain ⟨i0, hi, hz0, hz1, hz2⟩ := info_parts infoStr
  have HO := Lib.hid h
  have HX := Lib.hid hX
  have Hlen := Lib.hid hX.llen
  have hmax := hX.bound
  have HL := Lib.hid (fun (w' : World) (hb : Below w.heap.size w w') => hlet.keep hb (Nat.le_refl _))
  unfold maxLen at hmax
  clear h hX hlet
  by_cases hbig : 200 < m
  · have HF : Hid (chainS k l s xs = ([], false)) := chainS_none (.inl (by rw [Hlen.out]; omega))
    go_enter Tryd.func18, Tryd.ntmps18
    go_wp2_with fail
    go_ret2
    exact ⟨.slice none 0 0, ret_vb rfl (by rw [HF.out]), by rw [HF.out]; exact Own.none_, bel1 _ _⟩
  have Hlx : Hid (xs.length ≤ 200) := by show _ ≤ _; rw [Hlen.out]; omega
  have HR0 : Hid (((w.alloc (.cells #[.int .i64 k, .slice A n c] 32)).alloc (.cells #[.string s] 9)).ownsRow (w.heap.size + 1) 9 1 (.slice (some ⟨w.heap.size + 1, 0, none⟩) 1 1) 1 (strs [s])) := by
    have := World.ownsRow_lit (e := 9) (base := w.heap.size + 1) (size := 1) (w.alloc (.cells #[.int .i64 k, .slice A n c] 32)) #[.string s] 1 (by simp) (by unfold maxLen; omega) rfl
    show World.ownsRow _ _ _ _ _ _ _
    simpa [strs] using this
  go_enter Tryd.func18, Tryd.ntmps18
  go_wp2_with fail
  go_loopw [8, 20] (fun o i wr => ∃ (j N : Nat) (pre : List ByteArray) (cur : ByteArray), j ≤ m ∧ j < N ∧ Hid (N = j + 1) ∧ i = .int .i64 j ∧ cur.size ≤ 1048576 ∧ Hid (ChainAt k l s xs j pre cur) ∧ Hid (wr.ownsRow (w.heap.size + 1) 9 1 o N (strs (pre ++ [cur]))) ∧ Hid (Blk wr w.heap.size 32 #[.int .i64 k, .slice A n c]) ∧ Below w.heap.size w wr ∧ w.heap.size + 1 ≤ wr.heap.size) (fun _ i _ => m - (intOf i).toNat)
  case atStart => exact ⟨0, 1, [], s, Nat.zero_le _, by omega, rfl, rfl, hs, ChainAt.start k l s xs, HR0, (Blk.new1 _ _ _).alloc _, bel2 _ _ _, by simp⟩
  case round =>
    obtain ⟨j, N, pre, cur, hj, hjN, HN, rfl, hcs, HC, HR, HB, hb, hsz⟩ := hrel
    have hNm : N ≤ m + 1 := by have := HN.out; omega
    have hbs := hb.size
    obtain ⟨A6, c6, hv6⟩ := (Own.of_row HR.out).form
    subst hv6
    by_cases hlt : j < m
    · obtain ⟨g, off, c0, hv⟩ := HX.out.formR (by omega)
      obtain ⟨rfl, rfl⟩ : A' = some ⟨g, off, none⟩ ∧ c' = c0 := by injection hv with a _ b; exact ⟨a, b⟩
      clear hv
      obtain ⟨-, hgl, ⟨x, y, z⟩, hr, x0, x1, x2, -, -, -⟩ := (HX.out.below hb).link hlt
      have Hr := Lib.hid hr
      have hasz := linkS_size k l cur (x, y, z)
      clear hr
      dsimp only at x0 x1 x2
      have b2 := hb.alloc hbs (.cells #[.int .i64 x, .int .i64 y, .bool z] 34)
      have HB2 := Lib.hid (HB.out.alloc (.cells #[.int .i64 x, .int .i64 y, .bool z] 34))
      have HR2 := Lib.hid (HR.out.alloc (.cells #[.int .i64 x, .int .i64 y, .bool z] 34))
      have HZ2 := Lib.hid (Blk.new1 wr #[.int .i64 x, .int .i64 y, .bool z] 34)
      have hsz2 : w.heap.size + 1 ≤ (wr.alloc (.cells #[.int .i64 x, .int .i64 y, .bool z] 34)).heap.size := by simp; omega
      obtain ⟨gw, ow, rfl, hgw, hgwl, hcell⟩ := (Own.of_row HR2.out).str (by omega)
      obtain ⟨u, hu, y0, -⟩ := hcell j (by omega)
      have hpl := HC.out.1
      obtain rfl : cur = u := by
        rw [List.getElem?_append_right (by omega)] at hu
        simpa [hpl] using hu
      clear hu hcell hpl
      go_wp2_with fail
      clear hb HB x0 x1 x2 HR
      generalize hgz : wr.heap.size = gz at *
      obtain ⟨q0, q1, -, -, ql⟩ := HB2.out.two
      have z0 := HZ2.out.cell 0
      have z1 := HZ2.out.cell 1
      have z2 := HZ2.out.cell 2
      have zl := HZ2.out.lt
      clear HZ2
      generalize wr.alloc (.cells #[.int .i64 x, .int .i64 y, .bool z] 34) = w2 at *
      have HO2 : Hid (Own B w2.drew (.slice A n c) 2 n (rulesC l)) := HO.out.below b2.drew
      have HL2 : Hid (Let w2.drew) := HL.out _ b2.drew
      go_region_held3 (fun w' => w'.cell? ⟨w.heap.size, 0, none⟩ = some (.int .i64 k) ∧ w'.cell? ⟨w.heap.size, 1, none⟩ = some (.slice A n c) ∧ w'.cell? ⟨gw, ow + j, none⟩ = some (.string cur) ∧ w'.cell? ⟨gz, 0, none⟩ = some (.int .i64 x) ∧ w'.cell? ⟨gz, 1, none⟩ = some (.int .i64 y) ∧ w'.cell? ⟨gz, 2, none⟩ = some (.bool z) ∧ Below w2.heap.size w2 w')
        (first | exact ⟨q0, q1, y0, z0, z1, z2, (Below.refl _ w2).drew⟩ | exact held6_keepL (by assumption) hb3 (Nat.le_refl _) ql ql hgwl zl zl zl)
        ((go_at_call 13; refine (implApplyLink k A n c B l cur x y z _ HO2.out hsm hcs HL2.out).mono ?_; rintro e w3 ⟨rfl, hb3⟩))
      have hS := (‹_ ∧ _ ∧ _ ∧ _ ∧ _ ∧ _ ∧ Below w2.heap.size w2 w3›).2.2.2.2.2.2
      have b3 := b2.trans (hS.mono b2.size)
      have HB3 := Lib.hid (HB2.out.below hS HB2.out.lt)
      have HR3 := Lib.hid (ownsRow_below HR2.out hS)
      have hsz3 := Nat.le_trans hsz2 hS.size
      clear hb3 hS HB2 b2 HR2 HO2 HL2 q0 q1 ql y0 z0 z1 z2 zl
      cases h2 : (linkS k l cur (x, y, z)).2
      · have HF : Hid (chainS k l s xs = ([], false)) := chainS_none (.inr (HC.out.no Hr.out h2))
        clear h2
        generalize (linkS k l cur (x, y, z)).1 = nx at *
        go_wp2_with fail
        go_ret2
        exact ⟨.slice none 0 0, ret_vb rfl (by rw [HF.out]), by rw [HF.out]; exact Own.none_, b3⟩
      · have HC2 := Lib.hid (HC.out.step Hr.out h2)
        clear h2 HC
        generalize (linkS k l cur (x, y, z)).1 = nx at *
        go_wp2_with (at_builtin; refine wpList_append_own _ rfl _ _ 40 rfl (w.heap.size + 1) 9 i0 (.string ⟨#[]⟩) 1 16 Tryd.underlying40 hi hz0 hz1 hz2 rfl (by decide) _ _ _ rfl (HR3.out.alloc _) ⟨w3.heap.size, 0, none⟩ 1 1 [.string nx] rfl rfl ?c1 ?c2 ?c3 ?c4 ?c5 ?_)
        case c1 =>
          intro j u hj
          match j, hj with
          | 0, hj => simp at hj; subst hj; simp [Addr.add]
        case c2 => intro u hu; simp at hu; subst hu; rfl
        case c3 => unfold maxLen; omega
        case c4 => omega
        case c5 => simp; omega
        intro v' w6 hown' hgrow _
        have hown2 : w6.ownsRow (w.heap.size + 1) 9 1 v' (N + 1) (strs ((pre ++ [cur]) ++ [nx])) := by
          rw [strs_append (pre ++ [cur])]
          exact hown'
        have hbw6 : Below w.heap.size w w6 := grown_one HR3.out hgrow b3 (by omega) (by omega)
        have HB6 : Hid (Blk w6 w.heap.size 32 #[.int .i64 k, .slice A n c]) := (grown_block HR3.out hgrow (by omega) (by omega)).trans HB3.out
        have hs6 := hgrow.size
        simp at hs6
        have HR6 := Lib.hid hown2
        have HN2 : Hid (N + 1 = j + 1 + 1) := by show _ = _; rw [HN.out]
        clear hown' hgrow hown2 HR3 HB3 b3
        go_wp2_with fail
        go_roundw
        case rel => exact ⟨j + 1, N + 1, _, nx, by omega, by omega, HN2, by go_num, hasz, HC2, HR6, HB6, hbw6, by omega⟩
        case measure => simp [intOf]; omega
    · obtain rfl : j = m := by omega
      have hst := HC.out.stop (by rw [Hlen.out]; exact Nat.le_refl _)
      have HF : Hid (chainS k l s xs = (pre ++ [cur], true)) := chainS_some Hlx.out hst
      have hpl : (pre ++ [cur]).length = j + 1 := by have := HC.out.1; simp; omega
      go_wp2_with fail
      go_ret2
      exact ⟨.slice A6 N c6, ret_vb rfl (by rw [HF.out]), by rw [HF.out]; dsimp only; rw [hpl, ← HN.out]; exact (Own.of_row HR.out).mono (by omega), hb⟩
end Go.Proofs.YtddifhbjjiphiaaDoor
