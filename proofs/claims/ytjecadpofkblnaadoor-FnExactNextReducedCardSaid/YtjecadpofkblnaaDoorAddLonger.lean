/- The tally for one letter more: addLonger. -/
import Derived.Test.YtjecadpofkblnaaDoorLanguageOf
namespace Go.Proofs.YtjecadpofkblnaaDoor
open Go.RowKit Go.Maps

theorem TalAt.obj {W : World} {g m c : Nat} {T : E → Option Int} (h : TalAt W g m c T) : ∃ es clock, W.heap[m]? = some (.map es clock) := h.2.obj endK
theorem Blk.ne_map {W : World} {g m : Nat} {t : TypeId} {cs : Array Value} (h : Blk W g t cs) (hm : ∃ es clock, W.heap[m]? = some (.map es clock)) : g ≠ m := fun e => by
  obtain ⟨es, clock, hm⟩ := hm
  unfold Blk at h
  rw [e, hm] at h; cases h
theorem LangS.tal {W W' : World} {b0 gL mA k c m : Nat} {Q : List E} {F : E → Nat → Option E} (h : LangS W b0 gL mA k c Q F) (hm : ∃ es clock, W.heap[m]? = some (.map es clock)) (hne : mA ≠ m) (ht : Turn [m] W W') : LangS W' b0 gL mA k c Q F := by
  obtain ⟨⟨A, cap, h1, h2⟩, h3, h4, h5⟩ := h
  refine ⟨⟨A, cap, ht.blk h1 (by simpa using h1.ne_map hm), ?_⟩, h3.same moveK (ht.block mA (h3.lt moveK) (by simpa using hne)), h4, h5⟩
  refine ⟨h2.1, ?_⟩
  rcases h2.2 with h2 | ⟨g, cp, cur, e, hg, hh, r⟩
  · exact Or.inl h2
  · refine Or.inr ⟨g, cp, cur, e, hg, ?_, r⟩
    exact ht.obj hh (by simpa using Blk.ne_map (W := W) (t := 97) (cs := cur) hh hm)
theorem zeroEnd (w : World) : (zeroValue 97).run Tryd.prog w = .ok (.agg #[.int .i64 0, .int .i64 0]) w := by kernel_rfl

theorem aftQ_at {l : List R} {k : Nat} {Q : List E} {e : E} {j : Nat} (he : e ∈ Q) (hj : j < k) : aftQ l k Q e j = nxtS l e j := by unfold aftQ; rw [if_pos ⟨he, hj⟩]
theorem tal_put {l : List R} {k : Nat} {Q : List E} {t a j : Nat} {e e' : E} (hQ : Ends l k Q) (he : Q[a]? = some e) (hj : j < k) (hn : nxtS l e j = some e') (hc : 0 < cntE l k t e') :
    putT (talTo l k Q t a j) e (wrap64 ((talTo l k Q t a j e).getD 0 + (talF l k Q t e').getD 0)) = talTo l k Q t a (j + 1) := by
  have hm : e' ∈ Q := hQ.next e j e' (List.mem_of_getElem? he) hj hn
  funext e1
  rw [talTo_step hQ.nodup he]
  unfold putT
  by_cases h : e1 = e
  · rw [if_pos h, if_pos h, talTo_at hQ.nodup he, (nxt_some k t hn).1]
    unfold talF
    rw [if_pos hm, someIf_getD, someIf_getD, show ∀ x : Int, wrap64 x = IntKind.wrap .i64 x from fun x => by unfold wrap64; rw [IntKind.wrap_i64], wr_add]
    unfold someIf
    rw [if_pos (by omega)]
  · rw [if_neg h, if_neg h]
theorem tal_skip {l : List R} {k : Nat} {Q : List E} {t a j : Nat} {e e' : E} (hQ : Ends l k Q) (he : Q[a]? = some e) (hn : nxtS l e j = some e') (hc : ¬ 0 < cntE l k t e') : talTo l k Q t a (j + 1) = talTo l k Q t a j := by
  refine talTo_same hQ.nodup he ?_
  rw [(nxt_some k t hn).1]; omega
theorem talF_some {l : List R} {k : Nat} {Q : List E} {t : Nat} {e : E} (he : e ∈ Q) : (talF l k Q t e).isSome = decide (0 < cntE l k t e) := by
  unfold talF someIf
  rw [if_pos he]
  by_cases h : 0 < cntE l k t e
  · rw [if_pos h, decide_eq_true h]; rfl
  · rw [if_neg h, decide_eq_false h]; rfl
theorem TalAt.mono {W : World} {g m c c' : Nat} {T : E → Option Int} (h : TalAt W g m c T) (hc : c ≤ c') : TalAt W g m c' T := ⟨h.1, h.2.mono endK hc⟩
theorem look_after (F : E → Nat → Option E) (m : M) : Value.tuple #[(aftV F m).getD (.agg #[.int .i64 0, .int .i64 0]), .bool (aftV F m).isSome] = afterV (F m.1 m.2) := by
  unfold aftV
  cases F m.1 m.2 <;> rfl
set_option maxRecDepth 100000 in
set_option maxHeartbeats 2000000 in
theorem addLonger_any (k : Nat) (l : List R) (b0 gL mA c0 g1 m1 c1 g2 m2 t : Nat) (Q : List E) (w : World) (hl : ∀ r ∈ l, r.1.size ≤ 8) (h12 : l.length ≤ 12) (hk : k ≤ 4) (hQ : Ends l k Q) (hlet : ∀ w', Turn [m2] w w' → Let w')
    (hL : LangS w b0 gL mA k c0 Q (aftQ l k Q)) (h1 : TalAt w g1 m1 c1 (talF l k Q t)) (h2 : TalAt w g2 m2 0 (fun _ => none)) (hA : mA ≠ m2) (h12m : m1 ≠ m2) :
    Calls Tryd.prog 92 #[.pointer (some ⟨gL, 0, none⟩), .pointer (some ⟨g1, 0, none⟩), .pointer (some ⟨g2, 0, none⟩)] w fun y w' => (∃ v, y = .returned v) ∧ Turn [m2] w w' ∧ TalAt w' g2 m2 1000 (talF l k Q (t + 1)) := by
  obtain ⟨⟨A2, cap, hblk, hrow⟩, -, -, -⟩ := id hL
  have q0 : w.cell? ⟨gL, 1, none⟩ = some (.slice A2 Q.length cap) := hblk.cell 1
  have HQl := hQ.len hl h12
  have HLt := Lib.hid (fun W' (ht : Turn [m2] w W') => hL.tal h2.obj hA ht)
  have H1t := Lib.hid (fun W' (ht : Turn [m2] w W') => h1.turn ht (by simpa using h1.1.ne_map h2.obj) (by simpa using h12m))
  have Hrow := Lib.hid (fun W' (ht : Turn [m2] w W') => by
    obtain ⟨⟨A3, cap3, hb3, hr3⟩, -, -, -⟩ := hL.tal h2.obj hA ht
    have e1 := (ht.blk hblk (by simpa using hblk.ne_map h2.obj)).cell 1
    rw [hb3.cell 1] at e1
    have e2 : Value.slice A3 Q.length cap3 = Value.slice A2 Q.length cap := by injection e1
    rw [e2] at hr3
    exact (Own.of_row hr3 : Own b0 W' (.slice A2 Q.length cap) 2 Q.length (endsC Q)))
  have HBt := Lib.hid (fun W' (ht : Turn [m2] w W') => ht.blk hblk (by simpa using hblk.ne_map h2.obj))
  have H20 : Hid (TalAt w g2 m2 (4 * 0) (talTo l k Q t 0 0)) := by rw [talTo_start]; exact h2
  have HLet := Lib.hid hlet
  have HE := Lib.hid hQ
  have Hl := Lib.hid hl
  have H12 := Lib.hid h12
  clear hL h1 h2 hblk hrow hlet hQ hl h12
  go_enter Tryd.func92, Tryd.ntmps92
  go_wp2_with fail
  clear q0
  go_loopw [18] (fun i wr => ∃ a : Nat, i = .int .i64 a ∧ a ≤ Q.length ∧ Hid (TalAt wr g2 m2 (4 * a) (talTo l k Q t a 0)) ∧ Turn [m2] w wr) (fun i _ => Q.length - (intOf i).toNat)
  case atStart => exact ⟨0, rfl, Nat.zero_le _, H20, Turn.refl _ _⟩
  case round =>
    obtain ⟨a, rfl, hal, H2, hT⟩ := hrel
    clear H20
    by_cases hlt : a < Q.length
    · have hO := Hrow.out wr hT
      obtain ⟨g, off, cc, hv⟩ := hO.formR (by omega)
      obtain ⟨rfl, rfl⟩ : A2 = some ⟨g, off, none⟩ ∧ cap = cc := by injection hv with a _ b; exact ⟨a, b⟩
      clear hv
      obtain ⟨-, hgl, e, he, x0, x1⟩ := hO.endAt hlt
      have He := Lib.hid he
      have hmem : e ∈ Q := List.mem_of_getElem? he
      have hoe : okE e := (HE.out.good e hmem).lt Hl.out H12.out
      have Hmem := Lib.hid hmem
      have q1 : (wr.alloc (.cells #[.int .i64 e.1, .int .i64 e.2] 97)).cell? ⟨gL, 0, none⟩ = some (.int .i64 k) := ((HBt.out wr hT).alloc _).cell 0
      have HEb := Lib.hid (Blk.new1 wr #[.int .i64 e.1, .int .i64 e.2] 97)
      have hT1 := hT.trans (turn_below (S := [m2]) (bel1 wr (.cells #[.int .i64 e.1, .int .i64 e.2] 97)))
      have HT1 := Lib.hid hT1
      have H21 := Lib.hid (H2.out.turn (turn_below (S := []) (bel1 wr (.cells #[.int .i64 e.1, .int .i64 e.2] 97))) (by simp) (by simp))
      clear hO he hmem H2 hT1
      go_wp2_with fail
      clear x0 x1 hgl q1
      generalize wr.alloc (.cells #[.int .i64 e.1, .int .i64 e.2] 97) = w1 at *
      generalize wr.heap.size = eb at *
      go_loopw [26] (fun i wx => ∃ j : Nat, i = .int .i64 j ∧ j ≤ k ∧ Hid (TalAt wx g2 m2 (4 * a + j) (talTo l k Q t a j)) ∧ Hid (Turn [m2] w wx) ∧ Hid (Blk wx eb 97 #[.int .i64 e.1, .int .i64 e.2])) (fun i _ => k - (intOf i).toNat)
      case atStart => exact ⟨0, rfl, Nat.zero_le _, H21, HT1, HEb⟩
      case round =>
        clear H21 HT1 HEb
        obtain ⟨j, rfl, hj, H2, HT, HEb⟩ := hrel
        by_cases hlt2 : j < k
        · obtain ⟨u5, v5, cc5, hv5, hn5⟩ := after_form (aftQ l k Q e j)
          have Hn5 := Lib.hid hn5
          have hb2 := HBt.out wr HT.out
          have glr : gL < wr.heap.size := hb2.lt
          have ebr : eb < wr.heap.size := HEb.out.lt
          have hmp := (HLt.out wr HT.out).map
          have hlk : ∀ w', Below wr.heap.size wr w' → (Instr.lookup 99 (.map (some mA)) (.agg #[.int .i64 e.1, .int .i64 e.2, .int .u8 (97 + (j : Int))]) true).run Tryd.prog w' = .ok (.tuple #[.agg #[.int .i64 u5, .int .i64 v5], .bool cc5]) w' := fun w' hw => by
            have := (hmp.below moveK hw (hmp.lt moveK)).look_ok moveK (mt := 99) (et := 97) Tryd.underlying99 (zeroEnd w') (x := (e, j)) ⟨hoe, by omega⟩
            rw [look_after, hv5] at this
            exact this
          have hcl := (HLet.out wr HT.out).cell j (by omega)
          have glt : 0 < wr.heap.size := World.block_lt_of_cell? wr _ hcl
          have HSt : Hid (∀ w', Below wr.heap.size wr w' → w'.cell? ⟨gL, 2, none⟩ = some (.map (some mA)) ∧ w'.cell? ⟨eb, 0, none⟩ = some (.int .i64 e.1) ∧ w'.cell? ⟨eb, 1, none⟩ = some (.int .i64 e.2) ∧ w'.cell? ⟨0, j, none⟩ = some (.int .u8 (97 + (j : Int))) ∧ (Instr.lookup 99 (.map (some mA)) (.agg #[.int .i64 e.1, .int .i64 e.2, .int .u8 (97 + (j : Int))]) true).run Tryd.prog w' = .ok (.tuple #[.agg #[.int .i64 u5, .int .i64 v5], .bool cc5]) w' ∧ Below wr.heap.size wr w') :=
            fun w' hw => ⟨(hw.cell glr).trans (hb2.cell 2), (hw.cell ebr).trans (HEb.out.cell 0), (hw.cell ebr).trans (HEb.out.cell 1), (hw.cell glt).trans hcl, hlk w' hw, hw⟩
          have hj0 : (0 : Int) ≤ (j : Int) := by omega
          have hj4 : (j : Int) < 4 := by omega
          have c0' : Below wr.heap.size wr wr.drew := (Below.refl _ wr).drew
          clear hlk hcl hb2 hmp hv5 hn5
          go_wp2_with fail
          go_cut [9, 10] from 29 to 41 (fun s9 s10 wx => ∃ (d : Nat), s9 = .pointer (some ⟨d, 0, none⟩) ∧ s10 = .bool cc5 ∧ Hid (Blk wx d 97 #[.int .i64 u5, .int .i64 v5]) ∧ Hid (Below wr.heap.size wr wx))
          case first =>
            go_region_held3 (fun w' => w'.cell? ⟨gL, 2, none⟩ = some (.map (some mA)) ∧ w'.cell? ⟨eb, 0, none⟩ = some (.int .i64 e.1) ∧ w'.cell? ⟨eb, 1, none⟩ = some (.int .i64 e.2) ∧ w'.cell? ⟨0, j, none⟩ = some (.int .u8 (97 + (j : Int))) ∧ (Instr.lookup 99 (.map (some mA)) (.agg #[.int .i64 e.1, .int .i64 e.2, .int .u8 (97 + (j : Int))]) true).run Tryd.prog w' = .ok (.tuple #[.agg #[.int .i64 u5, .int .i64 v5], .bool cc5]) w' ∧ Below wr.heap.size wr w')
              (first | exact HSt.out _ c0' | exact HSt.out _ (c0'.alloc c0'.size _) | exact HSt.out _ (((c0'.alloc c0'.size _).setCell c0'.size _).setCell c0'.size _))
              (fail)
            all_goals go_wp2_with fail
            all_goals go_meet
            all_goals exact ⟨_, rfl, rfl, Blk.new1 _ _ _, (bel1 wr _).drew⟩
          case rest =>
            obtain ⟨d, rfl, rfl, HD, HW⟩ := hcut
            have g2r := H2.out.1.lt
            have m2r := H2.out.2.lt
            have HTc := Lib.hid (HT.out.trans (turn_below HW.out))
            have H2c := Lib.hid (H2.out.below HW.out g2r m2r)
            have HEc := Lib.hid (HEb.out.below HW.out ebr)
            clear H2 HT HEb HSt c0' HW
            rw [aftQ_at Hmem.out hlt2] at Hn5
            cases cc5
            · have H2d : Hid (TalAt wc g2 m2 (4 * a + (j + 1)) (talTo l k Q t a (j + 1))) := by
                show TalAt _ _ _ _ _
                rw [talTo_same HE.out.nodup He.out (nxt_none k t Hn5.out)]
                exact H2c.out.mono (by omega)
              go_wp2_with fail
              go_roundw
              case rel => exact ⟨j + 1, by go_num, by omega, H2d, HTc, HEc⟩
              case measure => simp [intOf]; omega
            · have Hn6 : Hid (nxtS l e j = some (u5, v5)) := Hn5
              have hm5 : (u5, v5) ∈ Q := HE.out.next e j _ Hmem.out hlt2 Hn6.out
              have ho5 : okE (u5, v5) := (HE.out.good _ hm5).lt Hl.out H12.out
              have Hm5 := Lib.hid hm5
              have d0 : wc.cell? ⟨d, 0, none⟩ = some (.int .i64 u5) := HD.out.cell 0
              have d1 : wc.cell? ⟨d, 1, none⟩ = some (.int .i64 v5) := HD.out.cell 1
              clear hm5 Hn5
              go_wp2_with fail
              refine (number_any g1 m1 c1 (talF l k Q t) (u5, v5) wc (H1t.out wc HTc.out) ho5).mono ?_
              rintro y w3 ⟨rfl, hb3⟩
              rw [talF_some Hm5.out]
              have g2c := H2c.out.1.lt
              have m2c := H2c.out.2.lt
              have H23 := Lib.hid (H2c.out.below hb3 g2c m2c)
              have HT3 := Lib.hid (HTc.out.trans (turn_below hb3))
              have HE3 := Lib.hid (HEc.out.below hb3 HEc.out.lt)
              clear H2c HTc HEc hb3 d0 d1 HD
              by_cases hc : 0 < cntE l k t (u5, v5)
              · have Hpt := Lib.hid (tal_put HE.out He.out hlt2 Hn6.out hc)
                rw [decide_eq_true hc]
                have f0 : w3.cell? ⟨eb, 0, none⟩ = some (.int .i64 e.1) := HE3.out.cell 0
                have f1 : w3.cell? ⟨eb, 1, none⟩ = some (.int .i64 e.2) := HE3.out.cell 1
                clear hc
                generalize (talF l k Q t (u5, v5)).getD 0 = xx at *
                go_wp2_with fail
                refine (add_any g2 m2 (4 * a + j) (talTo l k Q t a j) e xx w3 H23.out hoe (by omega)).mono ?_
                rintro y w4 ⟨⟨vv, rfl⟩, hT4, hA4⟩
                rw [Hpt.out] at hA4
                have H24 : Hid (TalAt w4 g2 m2 (4 * a + (j + 1)) (talTo l k Q t a (j + 1))) := hA4
                have HT4 := Lib.hid (HT3.out.trans hT4)
                have hem : eb ≠ m2 := HE3.out.ne_map H23.out.obj
                have HE4 := Lib.hid (hT4.blk HE3.out (by simpa using hem))
                clear hA4 hT4 f0 f1
                go_wp2_with fail
                go_roundw
                case rel => exact ⟨j + 1, by go_num, by omega, H24, HT4, HE4⟩
                case measure => simp [intOf]; omega
              · have H2d : Hid (TalAt w3 g2 m2 (4 * a + (j + 1)) (talTo l k Q t a (j + 1))) := by
                  show TalAt _ _ _ _ _
                  rw [tal_skip HE.out He.out Hn6.out hc]
                  exact H23.out.mono (by omega)
                rw [decide_eq_false hc]
                clear hc
                go_wp2_with fail
                go_roundw
                case rel => exact ⟨j + 1, by go_num, by omega, H2d, HT3, HE3⟩
                case measure => simp [intOf]; omega
        · obtain rfl : j = k := by omega
          have H2d : Hid (TalAt wr g2 m2 (4 * (a + 1)) (talTo l j Q t (a + 1) 0)) := by
            show TalAt _ _ _ _ _
            rw [← talTo_round HE.out.nodup He.out]
            exact H2.out.mono (by omega)
          have HTo := HT.out
          go_wp2_with fail
          go_roundw
          case rel => exact ⟨a + 1, by go_num, by omega, H2d, HTo⟩
          case measure => simp [intOf]; omega
    · have hla : a = Q.length := by omega
      have H2d : Hid (TalAt wr g2 m2 1000 (talF l k Q (t + 1))) := by
        show TalAt _ _ _ _ _
        rw [← talTo_end, ← hla]
        exact H2.out.mono (by omega)
      go_wp2_with fail
      go_end0
      exact ⟨⟨_, rfl⟩, hT, H2d.out⟩
end Go.Proofs.YtjecadpofkblnaaDoor
