/- The program's products of generators. -/
import Derived.Test.YtkiomohpmajjcaaImplSub
namespace Go.Proofs.Ytkiomohpmajjcaa
open Go.RowKit

theorem row_apart {w : World} {base : Nat} {e t : TypeId} {size : Nat} {v : Value} {k b : Nat} {xs : List Value} {cs : Array Value} (h : w.ownsRow base e size v k xs) (hb : Blk w b t cs) (ht : t ≠ e) : v.ownBlock ≠ some b := by
  rcases h.2 with ⟨rfl, _⟩ | ⟨g, cap, cur, rfl, hg, hh, r⟩
  · simp [Value.ownBlock]
  · intro hv
    simp only [Value.ownBlock, Option.some.injEq] at hv
    subst hv
    unfold Blk at hb
    rw [hb] at hh
    simp only [Option.some.injEq, Obj.cells.injEq] at hh
    exact ht hh.2.1
theorem row_store {w : World} {base : Nat} {e : TypeId} {size : Nat} {v : Value} {k : Nat} {xs : List Value} (h : w.ownsRow base e size v k xs) {p : Addr} (hp : v.ownBlock ≠ some p.block) (u : Value) : (w.setCell p u).ownsRow base e size v k xs := by
  obtain ⟨h1, h2⟩ := h
  refine ⟨h1, ?_⟩
  rcases h2 with h2 | ⟨g, cap, cur, rfl, hg, hh, r⟩
  · exact .inl h2
  · exact .inr ⟨g, cap, cur, rfl, hg, (Below.heap_setCell w p u g (fun e => hp (by simp [Value.ownBlock]; exact e))).trans hh, r⟩
theorem grown_keep {w w' : World} {o : Obj} {b : Nat} {r : Option Nat} (hg : (w.alloc o).grownBy w' r) (hlt : b < w.heap.size) (hn : r ≠ some b) : w'.heap[b]? = w.heap[b]? := by
  rw [hg.block b (by simp; omega) hn.symm, Below.heap_alloc _ _ _ hlt]
set_option maxRecDepth 100000 in
set_option maxHeartbeats 1600000 in
theorem productsOf_any (h g N : Nat) (E : Option Addr) (m d D : Nat) (xs : List Int) (G : List Nat) (w : World) (H : GrpAt w h g N xs) (hGr : Grp N xs) (hE : Own D w (.slice E m d) 1 m (ints (nints G))) (hG : ∀ g ∈ G, g < N) :
    Calls Try.prog 73 #[.pointer (some ⟨h, 0, none⟩), .slice E m d] w fun e w' => (∃ Q k c' A', e = .returned (.agg #[.slice E m d, .slice A' k c']) ∧ Reach N xs G Q Q.length ∧ Own w.heap.size w' (.slice A' k c') 1 k (ints (nints Q))) ∧ Below w.heap.size w w' := by
  obtain ⟨i0, hi0, hz0, hz1, hz2⟩ := infoR_parts infoInt
  have hml := hE.ilen
  rw [nints_length] at hml
  have hmx := hE.bound
  unfold maxLen at hmx
  have HE := Lib.hid (fun (w' : World) (hb : Below w.heap.size w w') => hE.below hb)
  have HH := Lib.hid (fun (w' : World) (hb : Below w.heap.size w w') => H.below hb)
  have HGr := Lib.hid hGr
  have HG := Lib.hid hG
  have h1 := hGr.tab.lo
  have h40 := hGr.tab.hi
  have Hml := Lib.hid hml
  clear hE H hGr hG hml
  go_enter Try.func73, Try.ntmps73
  go_wp2_with fail
  have RZ := Lib.hid (((Blk.new1 w #[.slice none 0 0, .slice none 0 0] 86).alloc (.cells #[.int .i64 0] 3)).alloc (.cells #[.slice E m d, .slice (some ⟨w.heap.size + 1, 0, none⟩) 1 1] 86))
  have RS := Lib.hid (Blk.new3 w (.cells #[.slice none 0 0, .slice none 0 0] 86) (.cells #[.int .i64 0] 3) #[.slice E m d, .slice (some ⟨w.heap.size + 1, 0, none⟩) 1 1] 86)
  have RR := Lib.hid (row_below (row_new (w.alloc (.cells #[.slice none 0 0, .slice none 0 0] 86)) #[.int .i64 0] 1 3 rfl (by unfold maxLen; omega)) (bel1 _ (.cells #[.slice E m d, .slice (some ⟨w.heap.size + 1, 0, none⟩) 1 1] 86)))
  rw [show (w.alloc (.cells #[.slice none 0 0, .slice none 0 0] 86)).heap.size = w.heap.size + 1 by simp] at RR
  have b3 := bel3 w (.cells #[.slice none 0 0, .slice none 0 0] 86) (.cells #[.int .i64 0] 3) (.cells #[.slice E m d, .slice (some ⟨w.heap.size + 1, 0, none⟩) 1 1] 86)
  generalize ((w.alloc (.cells #[.slice none 0 0, .slice none 0 0] 86)).alloc (.cells #[.int .i64 0] 3)).alloc (.cells #[.slice E m d, .slice (some ⟨w.heap.size + 1, 0, none⟩) 1 1] 86) = w3 at *
  generalize hsb : w.heap.size + 1 + 1 = sb at *
  go_loopw [6] (fun i' wr => ∃ (Q : List Nat) (v : Value) (a : Nat), i' = .int .i64 a ∧ a ≤ Q.length ∧ Hid (wr.ownsRow (w.heap.size + 1) 3 1 v Q.length (ints (nints Q))) ∧ Hid (Blk wr sb 86 #[.slice E m d, v]) ∧ Hid (Blk wr w.heap.size 86 #[.slice none 0 0, .slice none 0 0]) ∧ Hid (Reach N xs G Q a) ∧ Below w.heap.size w wr) (fun i' _ => N - (intOf i').toNat)
  case atStart => exact ⟨[0], _, 0, rfl, Nat.zero_le _, RR, RS, RZ, Reach.start G, b3⟩
  case round =>
    obtain ⟨Q, v, a, rfl, ha, HR, HS, HZ, HQ, hb⟩ := hrel
    have hQN := HQ.out.len HGr.out.tab HG.out
    have hbs := hb.size
    obtain ⟨A9, c9, hv⟩ := (Own.of_row HR.out).form
    subst hv
    obtain ⟨s0, s1, -, -, sl⟩ := HS.out.two
    by_cases hlt : a < Q.length
    · obtain ⟨x, hx⟩ : ∃ x, Q[a]? = some x := ⟨Q[a], List.getElem?_eq_getElem hlt⟩
      have HRA := Lib.hid (HQ.out.enter hx)
      clear hx HQ
      go_wp2_with fail
      clear s0 s1
      go_loopw [22] (fun i' wr' => ∃ (Q : List Nat) (v : Value) (k : Nat), i' = .int .i64 k ∧ k ≤ m ∧ a < Q.length ∧ Hid (wr'.ownsRow (w.heap.size + 1) 3 1 v Q.length (ints (nints Q))) ∧ Hid (Blk wr' sb 86 #[.slice E m d, v]) ∧ Hid (Blk wr' w.heap.size 86 #[.slice none 0 0, .slice none 0 0]) ∧ Hid (ReachAt N xs G Q a x k) ∧ Below w.heap.size w wr') (fun i' _ => m - (intOf i').toNat)
      case atStart => exact ⟨Q, _, 0, rfl, Nat.zero_le _, hlt, HR, HS, HZ, HRA, hb⟩
      case round =>
        clear hQN hbs HR HS HZ hb HRA ha hlt sl
        obtain ⟨Q, v, k, rfl, hk, hlt, HR, HS, HZ, HRA, hb⟩ := hrel
        have hQN := HRA.out.toReach.len HGr.out.tab HG.out
        have hbs := hb.size
        obtain ⟨s0, s1, -, -, sl⟩ := HS.out.two
        by_cases hkl : k < m
        · obtain ⟨y, hy⟩ : ∃ y, G[k]? = some y := ⟨G[k]'(by have := Hml.out; omega), List.getElem?_eq_getElem _⟩
          have hyN := HG.out y (List.mem_of_getElem? hy)
          have hxN := (HRA.out.toReach.sound x (List.mem_of_getElem? HRA.out.at_)).lt HGr.out.tab HG.out
          obtain ⟨ge, eo, rfl, -, x1⟩ := (HE.out _ hb).nat hy
          obtain ⟨g2, off2, c2, hv2, -, hg2, x2⟩ := row_nat HR.out HRA.out.at_
          have Hy := Lib.hid hy
          subst hv2
          have x3 := (HH.out _ hb).ptr
          have x4 := (HH.out _ hb).mon.num HGr.out.tab.rng hxN hyN
          have hzN := HGr.out.tab.lt hxN hyN
          obtain ⟨z, hz⟩ : ∃ z, tmul N xs x y = z := ⟨_, rfl⟩
          rw [hz] at hzN x4
          have Hz := Lib.hid hz
          clear hy hz
          go_wp2_with fail
          go_quiet (fail)
          generalize hW : wr.drewN nq = w5 at *
          obtain rfl := hW
          have HD := Lib.hid (below_drewN (Below.refl wr.heap.size wr) nq)
          have hb5 := hb.trans (HD.out.mono hbs)
          have HR5 := Lib.hid (row_below HR.out HD.out)
          have HS5 := Lib.hid (HS.out.below HD.out HS.out.lt)
          have HZ5 := Lib.hid (HZ.out.below HD.out HZ.out.lt)
          generalize wr.drewN nq = w5 at *
          clear HD HR HS HZ s0 s1 x1 x2 x3 x4 hb hbs sl hg2
          have hbs := hb5.size
          obtain ⟨s0, s1, -, -, sl⟩ := HS5.out.two
          go_wp2_with fail
          refine (spannedHas_any _ _ _ _ _ z Q _ (Own.of_row HR5.out)).mono ?_
          rintro e w6 ⟨rfl, hb6⟩
          have hb7 := hb5.trans (hb6.mono hbs)
          have hbs7 := hb7.size
          have HR7 := Lib.hid (row_below HR5.out hb6)
          have HS7 := Lib.hid (HS5.out.below hb6 HS5.out.lt)
          have HZ7 := Lib.hid (HZ5.out.below hb6 HZ5.out.lt)
          clear s0 s1 hb6 HR5 HS5 HZ5
          cases hm : memB Q z
          · have HRA1 := Lib.hid (HRA.out.new Hy.out (by rw [Hz.out]; unfold memB at hm; simpa using hm))
            rw [Hz.out] at HRA1
            clear hm
            obtain ⟨s0, s1, sf0, sf1, sl7⟩ := HS7.out.two
            have hQN1 := HRA1.out.toReach.len HGr.out.tab HG.out
            rw [List.length_append, List.length_singleton] at hQN1
            have Hml2 := Lib.hid (nints_snoc Q z)
            have HQl : Hid ((Q ++ [z]).length = Q.length + 1) := by show _ = _; simp
            have Hap := Lib.hid (row_apart HR7.out HS7.out (by decide))
            have Hap2 := Lib.hid (row_apart HR7.out HZ7.out (by decide))
            go_wp2_with (at_builtin; refine wpList_append_own _ rfl _ _ 22 rfl (w.heap.size + 1) 3 i0 (.int .i64 0) 1 8 Try.underlying22 hi0 hz0 hz1 hz2 rfl (by decide) _ _ _ rfl (HR7.out.alloc _) ⟨w6.heap.size, 0, none⟩ 1 1 [.int .i64 (z : Int)] rfl rfl ?c1 ?c2 ?c3 ?c4 ?c5 ?_)
            case c1 => intro j u hj; match j, hj with | 0, hj => (simp at hj; subst hj; simp [Addr.add])
            case c2 => intro u hu; simp at hu; subst hu; rfl
            case c3 => unfold maxLen; omega
            case c4 => omega
            case c5 => simp; omega
            intro v' w8 hown' hgrow _
            have HX8 : Hid (w8.ownsRow (w.heap.size + 1) 3 1 v' (Q ++ [z]).length (ints (nints (Q ++ [z])))) := by
              show World.ownsRow _ _ _ _ _ _ _
              rw [Hml2.out, HQl.out]; simpa [ints] using hown'
            have hbw8 : Below w.heap.size w w8 := grown_one HR7.out hgrow hb7 (by omega) (by omega)
            have HS8 : Hid (Blk w8 sb 86 #[.slice (some ⟨ge, eo, none⟩) m d, .slice (some ⟨g2, off2, none⟩) Q.length c2]) := (grown_keep hgrow HS7.out.lt Hap.out).trans HS7.out
            have HZ8 : Hid (Blk w8 w.heap.size 86 #[.slice none 0 0, .slice none 0 0]) := (grown_keep hgrow HZ7.out.lt Hap2.out).trans HZ7.out
            have hlq : a < (Q ++ [z]).length := by rw [HQl.out]; omega
            clear hown' hgrow HR7 HS7 HZ7 s0 s1 sf0 sf1
            obtain ⟨s0, s1, sf0, sf1, sl8⟩ := HS8.out.two
            obtain ⟨A8, c8, hv8⟩ := (Own.of_row HX8.out).form
            rw [HQl.out] at hv8
            subst hv8
            generalize hv' : Value.slice A8 (Q.length + 1) c8 = v' at *
            have HS9 := Lib.hid (HS8.out.set_ 1 v')
            have HX9 := Lib.hid (row_store HX8.out (p := ⟨sb, 1, none⟩) (row_apart HX8.out HS8.out (by decide)) v')
            have HZ9 := Lib.hid (HZ8.out.far (p := ⟨sb, 1, none⟩) (by show w.heap.size ≠ sb; omega) v')
            have hbw9 := hbw8.setCell (p := ⟨sb, 1, none⟩) (by show w.heap.size ≤ sb; omega) v'
            subst hv'
            go_wp2_with fail
            go_roundw
            case rel => exact ⟨Q ++ [z], _, k + 1, by go_num, by omega, hlq, HX9, HS9, HZ9, HRA1, hbw9⟩
            case measure => simp [intOf]; omega
          · have HRA1 := Lib.hid (HRA.out.old Hy.out (by rw [Hz.out]; unfold memB at hm; simpa using hm))
            clear hm
            go_wp2_with fail
            go_roundw
            case rel => exact ⟨Q, _, k + 1, by go_num, by omega, hlt, HR7, HS7, HZ7, HRA1, hb7⟩
            case measure => simp [intOf]; omega
        · obtain rfl : m = k := by omega
          have HQ1 := HRA
          rw [← Hml.out] at HQ1
          have HQ2 := Lib.hid HQ1.out.next
          clear HQ1
          go_wp2_with fail
          go_roundw
          case rel => exact ⟨Q, v, a + 1, by go_num, by omega, HR, HS, HZ, HQ2, hb⟩
          case measure => simp [intOf]; omega
    · obtain rfl : Q.length = a := by omega
      obtain ⟨z0, z1, zf0, zf1, zl⟩ := HZ.out.two
      go_wp2_with fail
      have hz2 := (HZ.out.set_ 0 (.slice E m d)).set_ 1 (.slice A9 Q.length c9)
      obtain ⟨y0, y1, -, -, -⟩ := Blk.two (a := .slice E m d) (b := .slice A9 Q.length c9) hz2
      have HRf := Lib.hid ((Own.of_row HR.out).far (p := ⟨w.heap.size, 0, none⟩) (show w.heap.size < w.heap.size + 1 by omega) (.slice E m d) |>.far (p := ⟨w.heap.size, 1, none⟩) (show w.heap.size < w.heap.size + 1 by omega) (.slice A9 Q.length c9))
      have hbf := (hb.setCell (p := ⟨w.heap.size, 0, none⟩) (Nat.le_refl _) (.slice E m d)).setCell (p := ⟨w.heap.size, 1, none⟩) (Nat.le_refl _) (.slice A9 Q.length c9)
      refine bodyPost_ret (v := .agg #[.slice E m d, .slice A9 Q.length c9]) (by simp [results, Try.results73, go_sem, *]) rfl ⟨⟨Q, Q.length, c9, A9, rfl, HQ.out, HRf.out.mono (by omega)⟩, hbf⟩
end Go.Proofs.Ytkiomohpmajjcaa
