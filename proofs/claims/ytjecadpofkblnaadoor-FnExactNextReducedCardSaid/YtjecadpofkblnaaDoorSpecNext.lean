/- The model's next ends: l07Next. -/
import Derived.Test.YtjecadpofkblnaaDoorSpecGrowth
import Derived.Test.YtjecadpofkblnaaDoorInts
import Derived.Laws.OwnMore
import Derived.Deep.AppendLies
namespace Go.Proofs.YtjecadpofkblnaaDoor
open Go.RowKit

/-- Rows of different types lie in different blocks. -/
theorem rowE_apart {w : World} {b1 b2 : Nat} {e1 e2 : TypeId} {s1 s2 n1 n2 : Nat} {v1 v2 : Value} {x1 x2 : List Value} (h1 : w.ownsRow b1 e1 s1 v1 n1 x1) (h2 : w.ownsRow b2 e2 s2 v2 n2 x2) (hne : e1 ≠ e2) : v1.ownBlock = none ∨ v1.ownBlock ≠ v2.ownBlock := by
  rcases h1.2 with ⟨rfl, _⟩ | ⟨g, cap, cur, rfl, _, hg, _⟩
  · exact .inl rfl
  · right
    rcases h2.2 with ⟨rfl, _⟩ | ⟨g', cap', cur', rfl, _, hg', _⟩
    · simp [Value.ownBlock]
    · intro e
      obtain rfl : g = g' := by simpa [Value.ownBlock] using e
      rw [hg] at hg'
      injection hg' with hg'
      injection hg' with _ h _
      exact hne h
theorem wr_add64 (a b : Nat) : wrap64 (wr a + wr b) = wr (a + b) := by
  rw [← wr_add]; unfold wrap64; rw [IntKind.wrap_i64]
theorem wrap_wr (a : Nat) : wrap64 (0 + wr a) = wr a := by
  have := wr_add64 0 a
  rw [wr_zero, Nat.zero_add] at this; exact this
theorem wrs_get {N : List Nat} {i b : Nat} (h : N[i]? = some b) : (wrs N)[i]? = some (wr b) := by unfold wrs; rw [List.getElem?_map, h]; rfl
theorem wrs_set (N : List Nat) (i b : Nat) : ints (wrs (N.set i b)) = (ints (wrs N)).set i (.int .i64 (wr b)) := by simp [ints, wrs, List.map_set]
theorem notin_step {O : List ByteArray} {q : Nat} {s v : ByteArray} (h : O[q]? = some s) (hne : s ≠ v) (hn : v ∉ O.take q) : v ∉ O.take (q + 1) := by
  obtain ⟨hq, he⟩ := List.getElem?_eq_some_iff.1 h
  rw [List.take_succ_eq_append_getElem hq, he, List.mem_append, List.mem_singleton]
  rintro (h1 | h1)
  · exact hn h1
  · exact hne h1.symm

set_option maxRecDepth 100000 in
set_option maxHeartbeats 2000000 in
theorem specNext_any (k : Nat) (A Aw Ac : Option Addr) (n c B cw ccp Bw Bc i : Nat) (l : List R) (Ws : List ByteArray) (cs : List Nat) (w : World) (h : Own B w (.slice A n c) 2 n (rulesC l)) (hsm : smallR l) (hl : ∀ r ∈ l, r.1.size ≤ 8) (hk : k ≤ 4) (hWs : Ws.length ≤ 1073741824)
    (hW : Own Bw w (.slice Aw Ws.length cw) 1 Ws.length (strs Ws)) (hC : Own Bc w (.slice Ac Ws.length ccp) 1 Ws.length (ints (wrs cs))) (hst : SpecSt l k i Ws cs) :
    Calls Tryd.prog 78 #[.agg #[.int .i64 k, .slice A n c], .slice Aw Ws.length cw, .slice Ac Ws.length ccp] w fun e w' => ∃ vO vN O N, e = .returned (.tuple #[vO, vN]) ∧ Own w.heap.size w' vO 1 O.length (strs O) ∧ Own w.heap.size w' vN 1 O.length (ints (wrs N)) ∧ SpecSt l k (i + 1) O N ∧ Below w.heap.size w w' := by
  obtain ⟨i0, hi, hz0, hz1, hz2⟩ := info_parts infoStr
  obtain ⟨j0, hj, hy0, hy1, hy2⟩ := info_parts infoInt
  have HO := Lib.hid h
  have HW := Lib.hid hW
  have HC := Lib.hid hC
  have HS := Lib.hid hst
  have HA0 := Lib.hid (SpecAt.start l k Ws cs)
  clear h hW hC hst
  go_enter Tryd.func78, Tryd.ntmps78
  go_wp2_with fail
  go_loopw [8, 9, 19] (fun v8 v9 i wr => ∃ (a : Nat) (O : List ByteArray) (N : List Nat), i = .int .i64 a ∧ a ≤ Ws.length ∧ Hid (SpecAt l k Ws cs a 0 O N) ∧ Hid (wr.ownsRow (w.heap.size + 1) 9 1 v8 O.length (strs O)) ∧ Hid (wr.ownsRow (w.heap.size + 1) 3 1 v9 O.length (ints (wrs N))) ∧ Hid (Blk wr w.heap.size 25 #[.int .i64 k, .slice A n c]) ∧ Below w.heap.size w wr ∧ w.heap.size + 1 ≤ wr.heap.size) (fun _ _ i _ => Ws.length - (intOf i).toNat)
  case atStart =>
    refine ⟨0, [], [], rfl, Nat.zero_le _, HA0, ⟨rfl, Or.inr ⟨w.heap.size + 1, 0, #[], rfl, Nat.le_refl _, ?_, Nat.le_refl _, by unfold maxLen; omega, rfl, rfl⟩⟩, ⟨rfl, Or.inr ⟨w.heap.size + 1 + 1, 0, #[], rfl, by omega, ?_, Nat.le_refl _, by unfold maxLen; omega, rfl, rfl⟩⟩, ((Blk.new1 _ _ _).alloc _).alloc _, bel3 _ _ _ _, by simp⟩
    · exact (Blk.new2 w _ _ _).alloc _
    · exact Blk.new3 w _ _ _ _
  case round =>
    clear HA0
    obtain ⟨a, O, N, rfl, ha, HA, HRO, HRN, HB, hb, hsz⟩ := hrel
    have hbs := hb.size
    by_cases hlt : a < Ws.length
    · obtain ⟨gw, ow, hAw, -, hgw, hcw⟩ := (HW.out.below hb).str (by omega)
      subst hAw
      obtain ⟨wd, hwd, x0, -⟩ := hcw a hlt
      have Hwd := Lib.hid hwd
      have hws : wd.size ≤ 8 := HS.out.small wd (List.mem_of_getElem? hwd)
      obtain ⟨cN, hcN⟩ : ∃ cN, cs[a]? = some cN := ⟨_, List.getElem?_eq_getElem (by rw [← HS.out.len]; exact hlt)⟩
      have HcN := Lib.hid hcN
      clear hcw hwd hcN
      go_wp2_with fail
      clear x0
      go_loopw [8, 9, 12] (fun v8 v9 i wx => ∃ (j : Nat) (O : List ByteArray) (N : List Nat), i = .int .i64 j ∧ j ≤ k ∧ Hid (SpecAt l k Ws cs a j O N) ∧ Hid (wx.ownsRow (w.heap.size + 1) 9 1 v8 O.length (strs O)) ∧ Hid (wx.ownsRow (w.heap.size + 1) 3 1 v9 O.length (ints (wrs N))) ∧ Hid (Blk wx w.heap.size 25 #[.int .i64 k, .slice A n c]) ∧ Below w.heap.size w wx ∧ w.heap.size + 1 ≤ wx.heap.size) (fun _ _ i _ => k - (intOf i).toNat)
      case atStart => exact ⟨0, O, N, rfl, Nat.zero_le _, HA, HRO, HRN, HB, hb, hsz⟩
      case round =>
        clear HA HRO HRN HB hb hsz hbs O N
        obtain ⟨j, O, N, rfl, hj4, HA, HRO, HRN, HB, hb, hsz⟩ := hrel
        have hbs := hb.size
        obtain ⟨s0, s1, -, -, sl⟩ := HB.out.two
        have HON := Lib.hid HA.out.len
        have hfew := HA.out.few
        rw [← HA.out.len] at hfew
        have hOl : O.length ≤ 4294967300 := by
          have h2 : a * k ≤ 1073741824 * 4 := Nat.mul_le_mul (by omega) hk
          omega
        by_cases hlt2 : j < k
        · have hyw : (97 + (j : Int)) % 256 = 97 + (j : Int) := by omega
          have hcv := one_byte (P := Tryd.prog) Tryd.underlying22 Tryd.underlying5 Tryd.underlying9 wr (97 + (j : Int)) (by omega) (by omega)
          have hb97 : (97 + (j : Int)).toNat = 97 + j := by omega
          rw [hb97] at hcv
          have hsz1b : (⟨#[UInt8.ofNat (97 + j)]⟩ : ByteArray).size = 1 := rfl
          have Hb := Lib.hid (show wd ++ ⟨#[UInt8.ofNat (97 + j)]⟩ = ext1 wd j from rfl)
          have hxs : (ext1 wd j).size ≤ 9 := by rw [ext1_size]; omega
          have HB1 := Lib.hid (HB.out.alloc (.cells #[.int .u8 (97 + (j : Int))] 5))
          have b1 := hb.alloc hbs (.cells #[.int .u8 (97 + (j : Int))] 5)
          have HRO1 := Lib.hid (HRO.out.alloc (.cells #[.int .u8 (97 + (j : Int))] 5))
          have HRN1 := Lib.hid (HRN.out.alloc (.cells #[.int .u8 (97 + (j : Int))] 5))
          obtain ⟨t0, t1, -, -, tl⟩ := HB1.out.two
          generalize (⟨#[UInt8.ofNat (97 + j)]⟩ : ByteArray) = bb at *
          go_wp2_with fail
          clear s0 s1 sl hcv t0 t1 tl
          rw [Hb.out]
          generalize wr.alloc (.cells #[.int .u8 (97 + (j : Int))] 5) = w3 at *
          have hs3 := b1.size
          refine (specEnds_any k A n c B l (ext1 wd j) w3 (HO.out.below b1) (by omega)).mono ?_
          rintro e w4 ⟨rfl, hb4⟩
          have HB4 := Lib.hid (HB1.out.below hb4 HB1.out.lt)
          have HRO4 := Lib.hid (ownsRow_below HRO1.out hb4)
          have HRN4 := Lib.hid (ownsRow_below HRN1.out hb4)
          have b4 := b1.trans (hb4.mono b1.size)
          have hs4 := b4.size
          have hs4' : w.heap.size + 1 ≤ w4.heap.size := by have := HB4.out.lt; omega
          clear hb4 HB1 HRO1 HRN1 HRO HRN HB
          cases hh : hitS l (ext1 wd j)
          · have Hh := Lib.hid hh
            obtain ⟨t0, t1, -, -, tl⟩ := HB4.out.two
            clear hh
            go_wp2_with fail
            clear t0 t1 tl
            refine (specCut_any k A n c B l (ext1 wd j) w4 (HO.out.below b4) hsm hl (by omega)).mono ?_
            rintro e w5 ⟨rfl, hb5⟩
            have hcs := cutS_size l (ext1 wd j) hl
            have HB5 := Lib.hid (HB4.out.below hb5 HB4.out.lt)
            have HRO5 := Lib.hid (ownsRow_below HRO4.out hb5)
            have HRN5 := Lib.hid (ownsRow_below HRN4.out hb5)
            have b5 := b4.trans (hb5.mono b4.size)
            have hs5 := b5.size
            have hs5' : w.heap.size + 1 ≤ w5.heap.size := by have := HB5.out.lt; omega
            have HmoreF := Lib.hid (fun (q b : Nat) (h1 : O[q]? = some (cutS l (ext1 wd j))) (h2 : N[q]? = some b) => HA.out.more Hwd.out HcN.out Hh.out h1 h2)
            have Hpush := Lib.hid (fun hno => HA.out.push hl Hwd.out HcN.out Hh.out (HS.out.low wd (List.mem_of_getElem? Hwd.out)) (by omega) hno)
            generalize cutS l (ext1 wd j) = vc at *
            clear hb5 HB4 HRO4 HRN4
            go_wp2_with fail
            obtain ⟨A8, c8, rfl⟩ := (Own.of_row HRO5.out).form
            obtain ⟨A9, c9, rfl⟩ := (Own.of_row HRN5.out).form
            obtain ⟨w6, hw6⟩ : ∃ x : World, x = w5 := ⟨_, rfl⟩
            go_loopw [14] (fun i wx => ∃ q : Nat, i = .int .i64 q ∧ q ≤ O.length ∧ Hid (vc ∉ O.take q) ∧ wx = w5) (fun i _ => O.length - (intOf i).toNat)
            case atStart => exact ⟨0, rfl, Nat.zero_le _, (by simp : vc ∉ O.take 0), rfl⟩
            case round =>
              obtain ⟨q, rfl, hq, HNo, rfl⟩ := hrel
              have hwr := hb.size
              by_cases hqo : q < O.length
              · obtain ⟨g8, o8, hA8, -, hg8, hc8⟩ := (Own.of_row HRO5.out).str (by omega)
                subst hA8
                obtain ⟨sv, hsv, y0, -⟩ := hc8 q hqo
                have Hsv := Lib.hid hsv
                clear hc8 hsv
                by_cases hsx : sv = vc
                · subst hsx
                  obtain ⟨bN, hbN⟩ : ∃ bN, N[q]? = some bN := ⟨_, List.getElem?_eq_getElem (by rw [← HON.out]; exact hqo)⟩
                  obtain ⟨g9, cap9, e9, hgb9, hgl9⟩ := HRN5.out.form (by omega)
                  obtain ⟨rfl, rfl⟩ : A9 = some ⟨g9, 0, none⟩ ∧ c9 = cap9 := by injection e9 with a _ b; exact ⟨a, b⟩
                  obtain ⟨g10, o10, e10, -, -, hc9⟩ := (Own.of_row HRN5.out).int (by omega)
                  obtain ⟨rfl, rfl⟩ : g9 = g10 ∧ 0 = o10 := by injection e10 with e; injection e with e1 e2; exact ⟨e1, e2⟩
                  obtain ⟨yv, hyv, z0, zf⟩ := hc9 q hqo
                  rw [wrs_get hbN] at hyv
                  injection hyv with hyv
                  subst hyv
                  obtain ⟨gc, oc, hAc, -, -, hcc⟩ := (HC.out.below b5).int (by omega)
                  subst hAc
                  obtain ⟨yc, hyc, u0, -⟩ := hcc a hlt
                  rw [wrs_get HcN.out] at hyc
                  injection hyc with hyc
                  subst hyc
                  rw [Nat.zero_add] at z0 zf
                  have HA2 := Lib.hid (HmoreF.out q bN Hsv.out hbN)
                  have hwa := wr_add64 bN cN
                  have hw6' := HRN5.out.stored q (.int .i64 (Go.Proofs.YtjecadpofkblnaaDoor.wr (bN + cN)))
                  rw [← wrs_set] at hw6'
                  have HRN6 := Lib.hid hw6'.1
                  have HRO6 := Lib.hid (HRO5.out.kept hw6'.2 (by
                    have h1 := rowE_apart HRO5.out HRN5.out (by decide)
                    exact h1))
                  have HB6 := Lib.hid (HB5.out.far (p := ⟨g9, q, none⟩) (by show w.heap.size ≠ g9; omega) (.int .i64 (Go.Proofs.YtjecadpofkblnaaDoor.wr (bN + cN))))
                  have b6 := b5.setCell (p := ⟨g9, q, none⟩) (by show w.heap.size ≤ g9; omega) (.int .i64 (Go.Proofs.YtjecadpofkblnaaDoor.wr (bN + cN)))
                  clear hw6' hc9 hcc e9 e10
                  generalize Go.Proofs.YtjecadpofkblnaaDoor.wr bN = xb at *
                  generalize Go.Proofs.YtjecadpofkblnaaDoor.wr cN = xc at *
                  generalize Go.Proofs.YtjecadpofkblnaaDoor.wr (bN + cN) = xs at *
                  go_wp2_with fail
                  go_still_tail 12, (by kernel_rfl)
                  change wpList _ _ _ _ _ wr.drew
                  have HRO6d := Lib.hid HRO6.out.drew
                  have HRN6d := Lib.hid HRN6.out.drew
                  have HB6d : Hid (Blk (wr.setCell ⟨g9, q, none⟩ (.int .i64 xs)).drew w.heap.size 25 #[.int .i64 k, .slice A n c]) := HB6.out
                  have b6d := b6.drew
                  have hs6d : w.heap.size + 1 ≤ (wr.setCell ⟨g9, q, none⟩ (.int .i64 xs)).drew.heap.size := by simp [World.size_setCell]; omega
                  clear HRO6 HRN6 HB6 b6
                  go_wp2_with fail
                  go_roundw
                  case rel => exact ⟨j + 1, O, N.set q (bN + cN), by go_num, by omega, HA2, HRO6d, HRN6d, HB6d, b6d, hs6d⟩
                  case measure => simp [intOf]; omega
                · have hd : (sv.toList == vc.toList) = false := toList_ne hsx
                  have HNo2 := Lib.hid (notin_step Hsv.out hsx HNo.out)
                  clear hsx
                  go_wp2_with fail
                  go_roundw
                  case rel => exact ⟨q + 1, by go_num, by omega, HNo2, trivial⟩
                  case measure => simp [intOf]; omega
              · have hql : q = O.length := by omega
                subst hql
                have HP := Lib.hid (Hpush.out (by have h1 := HNo.out; rwa [List.take_length] at h1))
                clear HNo HmoreF Hpush
                go_wp2_with (at_builtin; refine wpList_append_own _ rfl _ _ 28 rfl (w.heap.size + 1) 9 i0 (.string ⟨#[]⟩) 1 16 Tryd.underlying28 hi hz0 hz1 hz2 rfl (by decide) _ _ _ rfl (HRO5.out.alloc _) ⟨wr.heap.size, 0, none⟩ 1 1 [.string vc] rfl rfl ?c1 ?c2 ?c3 ?c4 ?c5 ?_)
                case c1 =>
                  intro j u hj
                  match j, hj with
                  | 0, hj => simp at hj; subst hj; exact (Blk.new1 wr _ _).cell 0
                case c2 => intro u hu; simp at hu; subst hu; rfl
                case c3 => unfold maxLen; omega
                case c4 => omega
                case c5 => simp; omega
                intro v8 w7 hown7 hgrow7 _
                obtain ⟨g8, cap8, rfl, hgb8, hgl8⟩ := hown7.form (by omega)
                have HRO7 : Hid (w7.ownsRow (w.heap.size + 1) 9 1 (.slice (some ⟨g8, 0, none⟩) (O.length + 1) cap8) (O.length + 1) (strs (O ++ [vc]))) := by
                  have e : strs (O ++ [vc]) = strs O ++ [Value.string vc] := by simp [strs]
                  show World.ownsRow _ _ _ _ _ _ _
                  rw [e]; exact hown7
                have HRN7 := Lib.hid ((HRN5.out.alloc (.cells #[.string vc] 9)).kept hgrow7 (rowE_apart HRN5.out HRO5.out (by decide)))
                have HB7 : Hid (Blk w7 w.heap.size 25 #[.int .i64 k, .slice A n c]) := (grown_block HRO5.out hgrow7 (by omega) (by omega)).trans HB5.out
                have b7 : Below w.heap.size w w7 := grown_one HRO5.out hgrow7 b5 (by omega) (by omega)
                have hs7 := hgrow7.size
                simp at hs7
                clear hown7 hgrow7
                go_wp2_with (at_builtin; refine wpList_append_own _ rfl _ _ 31 rfl (w.heap.size + 1) 3 j0 (.int .i64 0) 1 8 Tryd.underlying31 hj hy0 hy1 hy2 rfl (by decide) _ _ _ rfl (HRN7.out.alloc _) ⟨w7.heap.size, 0, none⟩ 1 1 [.int .i64 0] rfl rfl ?c1 ?c2 ?c3 ?c4 ?c5 ?_)
                case c1 =>
                  intro j u hj
                  match j, hj with
                  | 0, hj => simp at hj; subst hj; exact (Blk.new1 w7 _ _).cell 0
                case c2 => intro u hu; simp at hu; subst hu; rfl
                case c3 => unfold maxLen; omega
                case c4 => omega
                case c5 => simp; omega
                intro v9 w8 hown8 hgrow8 _
                obtain ⟨g9, cap9, rfl, hgb9, hgl9⟩ := hown8.form (by omega)
                have hown8' : w8.ownsRow (w.heap.size + 1) 3 1 (.slice (some ⟨g9, 0, none⟩) (O.length + 1) cap9) (O.length + 1) (ints (wrs (N ++ [0]))) := by
                  have e : ints (wrs (N ++ [0])) = ints (wrs N) ++ [Value.int .i64 0] := by simp [ints, wrs, wr_zero]
                  rw [e]; exact hown8
                have hRO8 := (HRO7.out.alloc (.cells #[.int .i64 0] 3)).kept hgrow8 (rowE_apart HRO7.out HRN7.out (by decide))
                have HB8 : Hid (Blk w8 w.heap.size 25 #[.int .i64 k, .slice A n c]) := (grown_block HRN7.out hgrow8 (by omega) (by omega)).trans HB7.out
                have b8 : Below w.heap.size w w8 := grown_one HRN7.out hgrow8 b7 (by omega) (by omega)
                have hs8 := hgrow8.size
                simp at hs8
                have z0 : w8.cell? ⟨g9, O.length, none⟩ = some (.int .i64 0) := by
                  have := hown8'.cellAt O.length (by omega)
                  rw [this, HON.out]
                  simp [ints, wrs, wr_zero]
                have zf : w8.frozen? ⟨g9, O.length, none⟩ = false := hown8'.frozenAt _
                obtain ⟨gc, oc, hAc, -, -, hcc⟩ := (HC.out.below b8).int (by omega)
                subst hAc
                obtain ⟨yc, hyc, u0, -⟩ := hcc a hlt
                rw [wrs_get HcN.out] at hyc
                injection hyc with hyc
                subst hyc
                have hwa := wrap_wr cN
                rw [Int.zero_add] at hwa
                have hst8 := hown8'.stored O.length (.int .i64 (Go.Proofs.YtjecadpofkblnaaDoor.wr cN))
                have hset : (ints (wrs (N ++ [0]))).set O.length (.int .i64 (Go.Proofs.YtjecadpofkblnaaDoor.wr cN)) = ints (wrs (N ++ [cN])) := by
                  rw [← wrs_set, HON.out]; simp
                rw [hset] at hst8
                have HRN9 := Lib.hid hst8.1.drew
                have HRO9 := Lib.hid (hRO8.kept hst8.2 (rowE_apart hRO8 hown8' (by decide))).drew
                have HB9 : Hid (Blk (w8.setCell ⟨g9, O.length, none⟩ (.int .i64 (Go.Proofs.YtjecadpofkblnaaDoor.wr cN))).drew w.heap.size 25 #[.int .i64 k, .slice A n c]) := HB8.out.far (p := ⟨g9, O.length, none⟩) (by show w.heap.size ≠ g9; omega) _
                have b9 := (b8.setCell (p := ⟨g9, O.length, none⟩) (by show w.heap.size ≤ g9; omega) (.int .i64 (Go.Proofs.YtjecadpofkblnaaDoor.wr cN))).drew
                have hs9 : w.heap.size + 1 ≤ (w8.setCell ⟨g9, O.length, none⟩ (.int .i64 (Go.Proofs.YtjecadpofkblnaaDoor.wr cN))).drew.heap.size := by simp [World.size_setCell]; omega
                have hlen1 : O.length + 1 = (O ++ [vc]).length := by simp
                have HRN9' : Hid ((w8.setCell ⟨g9, O.length, none⟩ (.int .i64 (Go.Proofs.YtjecadpofkblnaaDoor.wr cN))).drew.ownsRow (w.heap.size + 1) 3 1 (.slice (some ⟨g9, 0, none⟩) (O.length + 1) cap9) (O ++ [vc]).length (ints (wrs (N ++ [cN])))) := by show World.ownsRow _ _ _ _ _ _ _; rw [← hlen1]; exact HRN9.out
                have HRO9' : Hid ((w8.setCell ⟨g9, O.length, none⟩ (.int .i64 (Go.Proofs.YtjecadpofkblnaaDoor.wr cN))).drew.ownsRow (w.heap.size + 1) 9 1 (.slice (some ⟨g8, 0, none⟩) (O.length + 1) cap8) (O ++ [vc]).length (strs (O ++ [vc]))) := by show World.ownsRow _ _ _ _ _ _ _; rw [← hlen1]; exact HRO9.out
                have hix0 : (0 : Int) ≤ (O.length : Int) := by omega
                have hix1 : (O.length : Int) < ((O.length + 1 : Nat) : Int) := by omega
                have hix2 : (O.length : Int) < (O.length : Int) + 1 := by omega
                have hix3 : O.length < O.length + 1 := by omega
                clear hcc hown8 hown8' hgrow8 hRO8 hst8 hset HRN9 HRO9 hlen1 HRO7 HRN7 b8 HB8 b7 HB7
                generalize Go.Proofs.YtjecadpofkblnaaDoor.wr cN = xc at *
                go_wp2_with fail
                go_still_tail 12, (by kernel_rfl)
                change wpList _ _ _ _ _ w8.drew
                go_wp2_with fail
                go_roundw
                case rel => exact ⟨j + 1, O ++ [vc], N ++ [cN], by go_num, by omega, HP, HRO9', HRN9', HB9, b9, hs9⟩
                case measure => simp [intOf]; omega
          · have HA2 := Lib.hid (HA.out.skip Hwd.out HcN.out hh)
            clear hh
            go_wp2_with fail
            go_roundw
            case rel => exact ⟨j + 1, O, N, by go_num, by omega, HA2, HRO4, HRN4, HB4, b4, hs4'⟩
            case measure => simp [intOf]; omega
        · obtain rfl : j = k := by omega
          have HA2 := Lib.hid (HA.out.round HS.out.len hlt)
          go_wp2_with fail
          go_roundw
          case rel => exact ⟨a + 1, O, N, by go_num, by omega, HA2, HRO, HRN, HB, hb, hsz⟩
          case measure => simp [intOf]; omega
    · have hla : a = Ws.length := by omega
      subst hla
      have HD := Lib.hid (HA.out.done HS.out hk)
      obtain ⟨A8, c8, rfl⟩ := (Own.of_row HRO.out).form
      obtain ⟨A9, c9, rfl⟩ := (Own.of_row HRN.out).form
      go_wp2_with fail
      go_ret2
      exact ⟨_, _, O, N, rfl, (Own.of_row HRO.out).mono (by omega), (Own.of_row HRN.out).mono (by omega), HD.out, hb⟩
end Go.Proofs.YtjecadpofkblnaaDoor
