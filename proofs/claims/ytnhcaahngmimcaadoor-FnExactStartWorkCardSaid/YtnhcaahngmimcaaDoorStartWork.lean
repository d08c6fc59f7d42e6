/- StartWork: the program's and the model's. -/
import Derived.Test.YtnhcaahngmimcaaDoorWorkOk
import Derived.ArgAppend
namespace Go.Proofs.YtnhcaahngmimcaaDoor
open Go.RowKit
theorem set4 {B : Nat} {w w1 : World} (h : Below B w w1) {g : Nat} (hg : B ≤ g) (a b c d : Value) : Below B w ((((w1.setCell ⟨g, 0, none⟩ a).setCell ⟨g, 1, none⟩ b).setCell ⟨g, 2, none⟩ c).setCell ⟨g, 3, none⟩ d) :=
  (((h.setCell hg _).setCell hg _).setCell hg _).setCell hg _
/-- 'append' of a whole slice onto one without room: a copy. -/
theorem run_copy {B n c : Nat} {A ao : Option Addr} {l : List R} {w : World} (h : Own B w (.slice A n c) 2 n (rulesC l)) (hn : n ≤ 1048576) (t : TypeId) (hao : n = 0 ∨ ao = none ∨ ∃ b, ao = some b) :
    ∃ v' w', (Builtin.append_ #[23, 23] t #[.slice ao 0 0, .slice A n c]).run Tryd.prog w = .ok v' w' ∧ Own w.heap.size w' v' 2 n (rulesC l) ∧ Below w.heap.size w w' := by
  obtain ⟨i0, hi, hz0, hz1, hz2⟩ := infoR_parts infoRule
  have hlen := h.rlen
  by_cases h0 : n = 0
  · subst h0
    obtain rfl : l = [] := List.eq_nil_of_length_eq_zero hlen
    refine ⟨.slice ao 0 0, w, ?_, ⟨rfl, ao, 0, rfl, Nat.le_refl _, by unfold maxLen; omega, fun hn => absurd hn (by omega)⟩, Below.refl _ _⟩
    have h1 : (Builtin.firstCells 2 0 (.slice A 0 c)).run Tryd.prog w = .ok #[] w := by
      cases A <;> simp [Builtin.firstCells, loadCells, loadCellsFrom, Sem.run_pure]
    cases ao <;> simp [Builtin.append_, run_underlying Tryd.underlying23, sizeOf, typeInfo, hi, Builtin.lenOf, hz1, h1, storeCells]
  · obtain ⟨g, off, c0, hv⟩ := h.formR (by omega)
    obtain ⟨rfl, rfl⟩ : A = some ⟨g, off, none⟩ ∧ c = c0 := by injection hv with a _ b; exact ⟨a, b⟩
    have hcell : ∀ j u, (rulesC l)[j]? = some u → w.cell? ((⟨g, off, none⟩ : Addr).add j) = some u := by
      intro j u hj
      rw [Addr.add_lit]
      have hjl := (List.getElem?_eq_some_iff.1 hj).1
      exact ((Own.cellAt h (by omega) hjl).1).trans hj
    cases ao with
    | none =>
      obtain ⟨v', w', hr, r1, r2, _⟩ := run_append_own (P := Tryd.prog) w w.heap.size 23 t 71 i0 (.agg #[.string ⟨#[]⟩, .string ⟨#[]⟩]) 2 32 Tryd.underlying23 hi hz0 hz1 hz2 rfl (by decide) (.slice none 0 0) 0 [] (World.ownsRow_nil w _ _ _) ⟨g, off, none⟩ n c (rulesC l) (by rw [rulesC_length, hlen]) hcell
        (fun u hu => by
          simp only [rulesC, List.mem_flatMap] at hu
          obtain ⟨r, -, hu⟩ := hu
          simp [ruleC] at hu
          rcases hu with rfl | rfl <;> rfl) (by unfold maxLen; omega) (by omega) (Nat.le_refl _)
      rw [Nat.zero_add, List.nil_append] at r1
      exact ⟨v', w', hr, Own.of_row r1, (Below.refl _ w).grown r2 (Nat.le_refl _) (fun k e => by simp [Value.ownBlock] at e)⟩
    | some b =>
      obtain ⟨v', w', hr, r1, r2⟩ := run_append_arg_grows (P := Tryd.prog) w 23 t 71 i0 (.agg #[.string ⟨#[]⟩, .string ⟨#[]⟩]) 2 32 Tryd.underlying23 hi hz0 hz1 hz2 rfl (by decide) b 0 0 [] rfl (fun j u hj => by simp at hj) ⟨g, off, none⟩ n c (rulesC l) (by rw [rulesC_length, hlen]) hcell (by omega) (by unfold maxLen; omega) (by omega)
      rw [Nat.zero_add, List.nil_append] at r1
      exact ⟨v', w', hr, Own.of_row r1, (Below.refl _ w).grown r2 (Nat.le_refl _) (fun k e => by cases e)⟩
theorem wpList_copy (w : World) {ops : Array Oper} {rest : List Oper} {o : Oper} {a : Act} {Q : Exit → Act → World → Prop} (hgd : o.guard = none) (s x : Operand) (hop : o.op = Op.call { callee := Callee.builtin Builtin.append, args := #[s, x], argTypes := #[23, 23] })
    {B n c : Nat} {A ao : Option Addr} {l : List R} (h : Own B w (.slice A n c) 2 n (rulesC l)) (hn : n ≤ 1048576) (hs : a.eval s = .slice ao 0 0) (hx : a.eval x = .slice A n c)
    (hK : ∀ v' w', Own w.heap.size w' v' 2 n (rulesC l) → Below w.heap.size w w' → wpList Tryd.prog ops Q rest (a.put o.dst v') w') :
    wpList Tryd.prog ops Q (o :: rest) a w := by
  refine wpList_plain hgd fun K hK' => ?_
  obtain ⟨v', w', hrun, r1, r2⟩ := run_copy h hn o.type (ao := ao) (by cases ao <;> simp)
  unfold Oper.wp
  simp [execOp, hop, resolve, invoke, builtin, hs, hx, hrun, Result.andThen]
  exact hK' _ _ (hK v' w' r1 r2)
/-- What StartWork answers. -/
def canStart (k : Int) (l : List R) : Bool := inK k && decide (l.length ≤ 12) && l.all (sidesOk k)
def startOf (k : Int) (l : List R) : Int × List R × Bool := if canStart k l then (k, l, true) else (0, [], false)
theorem startOf_no {k : Int} {l : List R} (h : canStart k l = false) : startOf k l = (0, [], false) := by simp [startOf, h]
theorem startOf_yes {k : Int} {l : List R} (h : canStart k l = true) : startOf k l = (k, l, true) := by simp [startOf, h]
/-- A start's answer, and its memory. -/
def StartPost (w : World) (s : Int × List R × Bool) (e : Ending) (w' : World) : Prop :=
  ∃ Q d, e = .returned (.tuple #[workV s.1 none 0 0 Q s.2.1.length d 0, .bool s.2.2]) ∧ Own w.heap.size w' (.slice Q s.2.1.length d) 2 s.2.1.length (rulesC s.2.1) ∧ Below w.heap.size w w'
theorem startPost_no {w w' : World} {k : Int} {l : List R} (h : canStart k l = false) (hb : Below w.heap.size w w') : StartPost w (startOf k l) (.returned (.tuple #[workV 0 none 0 0 none 0 0 0, .bool false])) w' := by
  rw [startOf_no h]; exact ⟨none, 0, rfl, Own.none_, hb⟩
theorem startPost_yes {w w' : World} {k : Int} {l : List R} {Q : Option Addr} {d n : Nat} (h : canStart k l = true) (hn : l.length = n) (ho : Own w.heap.size w' (.slice Q n d) 2 n (rulesC l)) (hb : Below w.heap.size w w') :
    StartPost w (startOf k l) (.returned (.tuple #[workV k none 0 0 Q n d 0, .bool true])) w' := by
  rw [startOf_yes h]; subst hn; exact ⟨Q, d, rfl, ho, hb⟩
set_option maxRecDepth 100000 in
set_option maxHeartbeats 1600000 in
theorem specStartWork (k : Int) (A : Option Addr) (n c B : Nat) (l : List R) (w : World) (h : Own B w (.slice A n c) 2 n (rulesC l)) (hsm : smallR l) :
    Calls Tryd.prog 38 #[.int .i64 k, .slice A n c] w fun e w' => StartPost w (startOf k l) e w' := by
  have hmax := h.bound
  have hlen := h.rlen
  unfold maxLen at hmax
  cases h1 : inK k
  · have He := Lib.hid (show canStart k l = false by simp [canStart, h1])
    have Hk := Lib.hid (show k < 1 ∨ 4 < k by simp [inK] at h1; omega)
    clear h1
    go_enter Tryd.func38, Tryd.ntmps38
    go_wp2_with fail
    refine (l01In_no _ _ _ _ Hk.out).mono ?_
    rintro e w' ⟨rfl, rfl⟩
    go_wp2_with fail
    refine bodyPost_ret (v := .tuple #[workV 0 none 0 0 none 0 0 0, .bool false]) (by simp [results, Tryd.results38, go_sem, *]) rfl (startPost_no He.out ?_)
    first | exact bel1 _ _ | exact set4 (bel1 _ _) (Nat.le_refl _) _ _ _ _
  have Hk := Lib.hid (show 1 ≤ k ∧ k ≤ 4 by simpa [inK] using h1)
  by_cases h2 : n ≤ 12
  · have HI := Lib.hid (show inK k = true ∧ n ≤ 12 ∧ l.length = n from ⟨h1, h2, hlen⟩)
    have HO := Lib.hid h
    have Hsm := Lib.hid hsm
    clear h1 hlen h hsm
    go_enter Tryd.func38, Tryd.ntmps38
    go_wp2_with fail
    refine (l01In_yes _ _ _ _ Hk.out.1 Hk.out.2).mono ?_
    rintro e w' ⟨rfl, rfl⟩
    go_wp2_with fail
    go_loopw [19] (fun i wr => ∃ j : Nat, j ≤ n ∧ i = .int .i64 j ∧ Hid ((l.take j).all (sidesOk k) = true) ∧ Hid (Blk wr w.heap.size 29 #[.int .i64 0, .slice none 0 0, .slice none 0 0, .int .i64 0]) ∧ Below w.heap.size w wr) (fun i _ => n - (intOf i).toNat)
    case atStart => exact ⟨0, Nat.zero_le _, rfl, rfl, Blk.new1 _ _ _, bel1 _ _⟩
    case round =>
      obtain ⟨j, hj, rfl, HX, HB, hb⟩ := hrel
      have hbs := hb.size
      by_cases hlt : j < n
      · obtain ⟨g, off, c0, hv⟩ := HO.out.formR (by omega)
        obtain ⟨rfl, rfl⟩ : A = some ⟨g, off, none⟩ ∧ c = c0 := by injection hv with a _ b; exact ⟨a, b⟩
        clear hv
        obtain ⟨-, hgl, ⟨u, v⟩, hr, x0, x1, -, -⟩ := (HO.out.below hb).rule hlt
        have Hr := Lib.hid hr
        have hsz := Hsm.out _ (List.mem_of_getElem? hr)
        have Hu := Lib.hid hsz.1
        have Hv := Lib.hid hsz.2
        clear hr hsz
        go_wp2_with fail
        refine (specSidesOk k u v _ Hu.out Hv.out).mono ?_
        rintro e w1 ⟨rfl, hb1⟩
        have HB1 := Lib.hid ((HB.out.alloc _).below hb1 (by simp; have := HB.out.lt; omega))
        have hbw1 := (hb.alloc hb.size _).trans (hb1.mono (by simp; omega))
        clear hb1 x0 x1 HB hb
        cases hso : sidesOk k (u, v)
        · have He := Lib.hid (show canStart k l = false by simp [canStart, all_bad l j _ (sidesOk k) Hr.out hso])
          clear hso
          obtain ⟨c0, c1, c2, c3, f0, f1, f2, f3, l0⟩ := HB1.out.four
          go_wp2_with fail
          refine bodyPost_ret (v := .tuple #[workV 0 none 0 0 none 0 0 0, .bool false]) (by simp [results, Tryd.results38, go_sem, *]) rfl (startPost_no He.out ?_)
          exact ((((hbw1.setCell (Nat.le_refl _) _).setCell (Nat.le_refl _) _).setCell (Nat.le_refl _) _).setCell (Nat.le_refl _) _)
        · have HX2 : Hid ((l.take (j + 1)).all (sidesOk k) = true) := by
            show _ = true
            rw [take_step l j _ Hr.out, List.all_append, HX.out]; simp [hso]
          clear hso
          go_wp2_with fail
          go_roundw
          case rel => exact ⟨j + 1, by omega, by go_num, HX2, HB1, hbw1⟩
          case measure => simp [intOf]; omega
      · have He := Lib.hid (show canStart k l = true by
          have h1 := HX.out
          obtain ⟨i1, i2, i3⟩ := HI.out
          rw [List.take_of_length_le (by omega)] at h1
          simp [canStart, i1, i2, i3, h1])
        go_wp2_with (at_builtin; refine wpList_copy _ rfl _ _ rfl ((HO.out.below hb).below (bel1 _ _)) (show n ≤ 1048576 by omega) rfl rfl ?_)
        intro v' w3 ho1 hb1
        have hb3 := (bel1 wr _).trans (hb1.mono (by simp))
        have ho := ho1.mono (show wr.heap.size ≤ _ by simp)
        clear hb1 ho1
        obtain ⟨Q', d', rfl⟩ := ho.form
        have HB3 := Lib.hid (HB.out.below hb3 HB.out.lt)
        have hb4 := hb.trans (hb3.mono hb.size)
        have ho4 := Lib.hid ho
        have hl4 : w.heap.size < wr.heap.size := HB.out.lt
        obtain ⟨c0, c1, c2, c3, f0, f1, f2, f3, l0⟩ := HB3.out.four
        clear hb3 ho
        go_wp2_with fail
        refine bodyPost_ret (v := .tuple #[workV k none 0 0 Q' n d' 0, .bool true]) (by simp [results, Tryd.results38, go_sem, *]) rfl (startPost_yes He.out HI.out.2.2 ?_ ?_)
        · exact ((((ho4.out.far hl4 _).far hl4 _).far hl4 _).far hl4 _).mono hbs
        · exact ((((hb4.setCell (Nat.le_refl _) _).setCell (Nat.le_refl _) _).setCell (Nat.le_refl _) _).setCell (Nat.le_refl _) _)
  · have He := Lib.hid (show canStart k l = false by simp [canStart]; omega)
    clear h1
    go_enter Tryd.func38, Tryd.ntmps38
    go_wp2_with fail
    refine (l01In_yes _ _ _ _ Hk.out.1 Hk.out.2).mono ?_
    rintro e w' ⟨rfl, rfl⟩
    go_wp2_with fail
    refine bodyPost_ret (v := .tuple #[workV 0 none 0 0 none 0 0 0, .bool false]) (by simp [results, Tryd.results38, go_sem, *]) rfl (startPost_no He.out ?_)
    first | exact bel1 _ _ | exact set4 (bel1 _ _) (Nat.le_refl _) _ _ _ _
set_option maxHeartbeats 800000 in
theorem copyRules_any (A : Option Addr) (n c B : Nat) (l : List R) (w : World) (h : Own B w (.slice A n c) 2 n (rulesC l)) (hn : n ≤ 1048576) :
    Calls Tryd.prog 52 #[.slice A n c] w fun e w' => ∃ v, e = .returned v ∧ Own w.heap.size w' v 2 n (rulesC l) ∧ Below w.heap.size w w' := by
  go_enter Tryd.func52, Tryd.ntmps52
  go_wp2_with (at_builtin; refine wpList_copy _ rfl _ _ rfl h hn rfl rfl ?_)
  intro v' w3 ho hb3
  go_wp2_with fail
  go_ret
  exact ⟨_, rfl, ho, hb3⟩
set_option maxRecDepth 100000 in
set_option maxHeartbeats 1600000 in
theorem implStartWork (k : Int) (A : Option Addr) (n c B : Nat) (l : List R) (w : World) (h : Own B w (.slice A n c) 2 n (rulesC l)) (hsm : smallR l) (hlet : Let w) :
    Calls Tryd.prog 13 #[.int .i64 k, .slice A n c] w fun e w' => StartPost w (startOf k l) e w' := by
  have hmax := h.bound
  have hlen := h.rlen
  unfold maxLen at hmax
  have HL := Lib.hid (fun (w' : World) (hb : Below w.heap.size w w') => hlet.keep hb (Nat.le_refl _))
  clear hlet
  cases h1 : inK k
  · have He := Lib.hid (show canStart k l = false by simp [canStart, h1])
    have Hk := Lib.hid h1
    clear h1
    go_enter Tryd.func13, Tryd.ntmps13
    go_wp2_with fail
    refine (lettersOk_any _ _).mono ?_
    rw [Hk.out]
    rintro e w' ⟨rfl, rfl⟩
    go_wp2_with fail
    refine bodyPost_ret (v := .tuple #[workV 0 none 0 0 none 0 0 0, .bool false]) (by simp [results, Tryd.results13, go_sem, *]) rfl (startPost_no He.out ?_)
    first | exact bel1 _ _ | exact set4 (bel1 _ _) (Nat.le_refl _) _ _ _ _
  have Hk := Lib.hid h1
  by_cases h2 : n ≤ 12
  · have HI := Lib.hid (show inK k = true ∧ n ≤ 12 ∧ l.length = n from ⟨h1, h2, hlen⟩)
    have HO := Lib.hid h
    have Hsm := Lib.hid hsm
    clear h1 hlen h hsm
    go_enter Tryd.func13, Tryd.ntmps13
    go_wp2_with fail
    refine (lettersOk_any _ _).mono ?_
    rw [Hk.out]
    rintro e w' ⟨rfl, rfl⟩
    go_wp2_with fail
    go_loopw [19] (fun i wr => ∃ j : Nat, j ≤ n ∧ i = .int .i64 j ∧ Hid ((l.take j).all (sidesOk k) = true) ∧ Hid (Blk wr w.heap.size 29 #[.int .i64 0, .slice none 0 0, .slice none 0 0, .int .i64 0]) ∧ Below w.heap.size w wr) (fun i _ => n - (intOf i).toNat)
    case atStart => exact ⟨0, Nat.zero_le _, rfl, rfl, Blk.new1 _ _ _, bel1 _ _⟩
    case round =>
      obtain ⟨j, hj, rfl, HX, HB, hb⟩ := hrel
      have hbs := hb.size
      by_cases hlt : j < n
      · obtain ⟨g, off, c0, hv⟩ := HO.out.formR (by omega)
        obtain ⟨rfl, rfl⟩ : A = some ⟨g, off, none⟩ ∧ c = c0 := by injection hv with a _ b; exact ⟨a, b⟩
        clear hv
        obtain ⟨-, hgl, ⟨u, v⟩, hr, x0, x1, -, -⟩ := (HO.out.below hb).rule hlt
        have Hr := Lib.hid hr
        have hsz := Hsm.out _ (List.mem_of_getElem? hr)
        have Hu := Lib.hid hsz.1
        have Hv := Lib.hid hsz.2
        clear hr hsz
        go_wp2_with fail
        refine (implSidesOk k u v _ Hu.out Hv.out (HL.out _ (hb.alloc hb.size _))).mono ?_
        rintro e w1 ⟨rfl, hb1⟩
        have HB1 := Lib.hid ((HB.out.alloc _).below hb1 (by simp; have := HB.out.lt; omega))
        have hbw1 := (hb.alloc hb.size _).trans (hb1.mono (by simp; omega))
        clear hb1 x0 x1 HB hb
        cases hso : sidesOk k (u, v)
        · have He := Lib.hid (show canStart k l = false by simp [canStart, all_bad l j _ (sidesOk k) Hr.out hso])
          clear hso
          obtain ⟨c0, c1, c2, c3, f0, f1, f2, f3, l0⟩ := HB1.out.four
          go_wp2_with fail
          refine bodyPost_ret (v := .tuple #[workV 0 none 0 0 none 0 0 0, .bool false]) (by simp [results, Tryd.results13, go_sem, *]) rfl (startPost_no He.out ?_)
          exact ((((hbw1.setCell (Nat.le_refl _) _).setCell (Nat.le_refl _) _).setCell (Nat.le_refl _) _).setCell (Nat.le_refl _) _)
        · have HX2 : Hid ((l.take (j + 1)).all (sidesOk k) = true) := by
            show _ = true
            rw [take_step l j _ Hr.out, List.all_append, HX.out]; simp [hso]
          clear hso
          go_wp2_with fail
          go_roundw
          case rel => exact ⟨j + 1, by omega, by go_num, HX2, HB1, hbw1⟩
          case measure => simp [intOf]; omega
      · have He := Lib.hid (show canStart k l = true by
          have h1 := HX.out
          obtain ⟨i1, i2, i3⟩ := HI.out
          rw [List.take_of_length_le (by omega)] at h1
          simp [canStart, i1, i2, i3, h1])
        go_wp2_with fail
        refine (copyRules_any _ _ _ _ l _ (HO.out.below hb) (show n ≤ 1048576 by omega)).mono ?_
        rintro e w3 ⟨v', rfl, ho, hb3⟩
        obtain ⟨Q', d', rfl⟩ := ho.form
        have HB3 := Lib.hid (HB.out.below hb3 HB.out.lt)
        have hb4 := hb.trans (hb3.mono hb.size)
        have ho4 := Lib.hid ho
        have hl4 : w.heap.size < wr.heap.size := HB.out.lt
        obtain ⟨c0, c1, c2, c3, f0, f1, f2, f3, l0⟩ := HB3.out.four
        clear hb3 ho
        go_wp2_with fail
        refine bodyPost_ret (v := .tuple #[workV k none 0 0 Q' n d' 0, .bool true]) (by simp [results, Tryd.results13, go_sem, *]) rfl (startPost_yes He.out HI.out.2.2 ?_ ?_)
        · exact ((((ho4.out.far hl4 _).far hl4 _).far hl4 _).far hl4 _).mono hbs
        · exact ((((hb4.setCell (Nat.le_refl _) _).setCell (Nat.le_refl _) _).setCell (Nat.le_refl _) _).setCell (Nat.le_refl _) _)
  · have He := Lib.hid (show canStart k l = false by simp [canStart]; omega)
    clear h1
    go_enter Tryd.func13, Tryd.ntmps13
    go_wp2_with fail
    refine (lettersOk_any _ _).mono ?_
    rw [Hk.out]
    rintro e w' ⟨rfl, rfl⟩
    go_wp2_with fail
    refine bodyPost_ret (v := .tuple #[workV 0 none 0 0 none 0 0 0, .bool false]) (by simp [results, Tryd.results13, go_sem, *]) rfl (startPost_no He.out ?_)
    first | exact bel1 _ _ | exact set4 (bel1 _ _) (Nat.le_refl _) _ _ _ _
end Go.Proofs.YtnhcaahngmimcaaDoor
