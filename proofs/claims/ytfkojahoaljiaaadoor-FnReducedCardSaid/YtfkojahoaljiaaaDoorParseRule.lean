/- ParseRule: the program's and the model's. -/
import Derived.Test.YtfkojahoaljiaaaDoorRulePlain
import Derived.Test.YtfkojahoaljiaaaDoorRules
import Derived.Test.YtfkojahoaljiaaaDoorLetters
import Derived.Test.YtfkojahoaljiaaaDoorSplit
import Derived.Test.YtfkojahoaljiaaaDoorSpecSplit
namespace Go.Proofs.YtfkojahoaljiaaaDoor
open Go.RowKit

theorem dotT (a : ByteArray) : (a.toList == ([46] : List UInt8)) = decide (a = dot) := by
  have hd : dot.toList = [46] := by rw [toList_data]; rfl
  by_cases h : a = dot
  · subst h; rw [hd]; simp
  · rw [← hd, toList_ne h]; simp [h]
theorem ret_side {u v : ByteArray} {p q : Bool} (h : u = v ∧ p = q) : Ending.returned (.tuple #[.string v, .bool q]) = Ending.returned (.tuple #[.string u, .bool p]) := by rw [h.1, h.2]

theorem ret_rule2 {a : R × Bool} {b : R} {q : Bool} (h : a = (b, q)) : Ending.returned (.tuple #[ruleV b, .bool q]) = Ending.returned (.tuple #[ruleV a.1, .bool a.2]) := by rw [h]
theorem parseTwo_eq (a b : ByteArray) : parseTwo a b = if sideWOk a && sideWOk b then ((sideV a, sideV b), true) else ((⟨#[]⟩, ⟨#[]⟩), false) := by
  unfold parseTwo
  by_cases h : (sideWOk a && sideWOk b) = true
  · rw [if_pos h, if_pos h]
    rw [Bool.and_eq_true] at h
    simp [sideV, h.1, h.2]
  · rw [if_neg h, if_neg h]

theorem parseTwo_spec (a b : ByteArray) : parseTwo a b = if wordOk 4 (sideW a) && wordOk 4 (sideW b) && decide (ruleT (sideW a, sideW b) = a ++ ⟨#[62]⟩ ++ b) then ((sideW a, sideW b), true) else ((⟨#[]⟩, ⟨#[]⟩), false) := by
  unfold parseTwo
  rw [ruleT_eq, sideWOk_eq, sideWOk_eq]
  cases wordOk 4 (sideW a) <;> cases wordOk 4 (sideW b) <;> cases decide (a.size ≠ 0) <;> cases decide (b.size ≠ 0) <;> rfl
/-- The model's parts behind j rounds. -/
def wAt (a b : ByteArray) : Nat → List ByteArray
  | 0 => [a, b]
  | 1 => [sideW a, b]
  | _ => [sideW a, sideW b]
theorem wAt_len (a b : ByteArray) : ∀ j, (wAt a b j).length = 2
  | 0 => rfl
  | 1 => rfl
  | _ + 2 => rfl
theorem wAt_yes (a b : ByteArray) (j : Nat) (hj : j < 2) (h : (wAt a b j)[j]? = some dot) : (strs (wAt a b j)).set j (.string ⟨#[]⟩) = strs (wAt a b (j + 1)) := by
  match j, hj with
  | 0, _ => simp [wAt] at h; subst h; rfl
  | 1, _ => simp [wAt] at h; subst h; rfl
theorem wAt_no (a b : ByteArray) (j : Nat) (hj : j < 2) (x : ByteArray) (h : (wAt a b j)[j]? = some x) (hx : x ≠ dot) : wAt a b (j + 1) = wAt a b j := by
  match j, hj with
  | 0, _ => simp [wAt] at h; subst h; simp [wAt, sideW, hx]
  | 1, _ => simp [wAt] at h; subst h; simp [wAt, sideW, hx]

set_option maxRecDepth 100000 in
set_option maxHeartbeats 1600000 in
theorem specParseRule (s : ByteArray) (w : World) (hs : s.size ≤ 1048576) :
    Calls Tryd.prog 51 #[.string s] w fun e w' => e = .returned (.tuple #[ruleV (parseR s).1, .bool (parseR s).2]) ∧ Below w.heap.size w w' := by
  go_enter Tryd.func51, Tryd.ntmps51
  go_wp2_with fail
  refine (specSplitAny s ⟨#[62]⟩ _ hs (by decide)).mono ?_
  rintro e w1 ⟨v, rfl, o1, hb1⟩
  obtain ⟨A1, c1, rfl⟩ := o1.form
  have b1 := (bel1 w _).trans (hb1.mono (by simp))
  have Q1 := Lib.hid ((Blk.new1 w _ _).below hb1 (by simp))
  obtain ⟨q0, q1, f0, f1, ql⟩ := Q1.out.two
  clear hb1
  generalize hG : splitL (sepOf (⟨#[62]⟩ : ByteArray).data.toList) s.data.toList = G at *
  have hG' : gtParts s = G := hG
  have HG := Lib.hid hG'
  clear hG hG'
  by_cases hl : G.length = 2
  · obtain ⟨a, b, rfl⟩ : ∃ a b, G = [a, b] := by
      match G, hl with
      | [a, b], _ => exact ⟨a, b, rfl⟩
    have hsz := gtParts_size HG.out
    have hw1 := sideW_le a
    have hw2 := sideW_le b
    have Ha : Hid ((sideW a).size ≤ 1048576) := by show _ ≤ _; omega
    have Hb : Hid ((sideW b).size ≤ 1048576) := by show _ ≤ _; omega
    have HP := Lib.hid ((parseR_two HG.out).trans (parseTwo_spec a b))
    have HS := Lib.hid (gtParts_two HG.out)
    clear hsz hl hw1 hw2 q0 q1 f0 f1 ql
    simp only [List.length_cons, List.length_nil, World.size_alloc, Nat.reduceAdd, Nat.zero_add] at *
    obtain ⟨g, off, rfl, hgB, hg, -⟩ := o1.str (by simp)
    have O1 : Hid (Own (w.heap.size + 1) w1 (.slice (some ⟨g, off, none⟩) 2 c1) 1 2 (strs (wAt a b 0))) := o1
    have hmax := o1.bound
    clear o1
    go_wp2_with fail
    go_loopw [16] (fun i wr => ∃ j : Nat, j ≤ 2 ∧ i = .int .i64 j ∧ Hid (Own (w.heap.size + 1) wr (.slice (some ⟨g, off, none⟩) 2 c1) 1 2 (strs (wAt a b j))) ∧ Hid (Blk wr w.heap.size 70 #[.string ⟨#[]⟩, .string ⟨#[]⟩]) ∧ Below w.heap.size w wr) (fun i _ => 2 - (intOf i).toNat)
    case atStart => exact ⟨0, Nat.zero_le _, rfl, O1, Q1, b1⟩
    case round =>
      obtain ⟨j, hj, rfl, HO, HQ, hb⟩ := hrel
      have hbs := hb.size
      by_cases hlt : j < 2
      · obtain ⟨g', off', e, -, hgl, hcell⟩ := HO.out.str (by omega)
        obtain ⟨rfl, rfl⟩ : g = g' ∧ off = off' := by injection e with e; injection e with e1 e2; exact ⟨e1, e2⟩
        clear e
        obtain ⟨x, hx, x0, xf⟩ := hcell j hlt
        clear hcell
        by_cases hd : x = dot
        · subst hd
          have ho2 := Own.set HO.out (j := j) (by rw [strs_length, wAt_len]; exact hlt) (.string ⟨#[]⟩)
          rw [wAt_yes a b j hlt hx] at ho2
          have HO2 := Lib.hid ho2
          have HQ2 := Lib.hid (Blk.far HQ.out (p := ⟨g, off + j, none⟩) (by show w.heap.size ≠ g; omega) (.string ⟨#[]⟩))
          have d1 : (dot.toList == ([46] : List UInt8)) = true := by rw [dotT]; simp
          clear ho2 hx
          go_wp2_with fail
          go_roundw
          case rel => exact ⟨j + 1, by omega, by go_num, HO2, HQ2, hb.setCell (by show w.heap.size ≤ g; omega) _⟩
          case measure => simp [intOf]; omega
        · have d1 : (x.toList == ([46] : List UInt8)) = false := by rw [dotT]; simp [hd]
          have HO2 : Hid (Own (w.heap.size + 1) wr (.slice (some ⟨g, off, none⟩) 2 c1) 1 2 (strs (wAt a b (j + 1)))) := by
            show Own _ _ _ _ _ _
            rw [wAt_no a b j hlt x hx hd]; exact HO.out
          clear hx hd
          go_wp2_with fail
          go_roundw
          case rel => exact ⟨j + 1, by omega, by go_num, HO2, HQ, hb⟩
          case measure => simp [intOf]; omega
      · obtain rfl : j = 2 := by omega
        obtain ⟨g', off', e, -, hgl, hcell⟩ := HO.out.str (by omega)
        obtain ⟨rfl, rfl⟩ : g = g' ∧ off = off' := by injection e with e; injection e with e1 e2; exact ⟨e1, e2⟩
        clear e
        have c0 := hcell 0 (by simp)
        have c1' := hcell 1 (by simp)
        obtain ⟨a', ha', x0, -⟩ := c0
        obtain ⟨b', hb', x1, -⟩ := c1'
        simp [wAt] at ha' hb'
        subst ha'
        subst hb'
        rw [Nat.add_zero] at x0
        clear hcell
        generalize sideW a = p at *
        generalize sideW b = q at *
        go_wp2_with fail
        have hb1 := (hb.alloc hbs (.cells #[.string p, .string q] 70)).drew
        have X1 := Lib.hid (Blk.drewN (Blk.new1 wr #[.string p, .string q] 70) 1)
        have Q2 := Lib.hid (Blk.drewN (HQ.out.alloc (.cells #[.string p, .string q] 70)) 1)
        have hxl : w.heap.size < wr.heap.size := HQ.out.lt
        have y0 := fun o => (World.cell?_alloc_lt wr o ⟨g, off, none⟩ hgl).trans x0
        have y1 := fun o => (World.cell?_alloc_lt wr o ⟨g, off + 1, none⟩ hgl).trans x1
        go_region_held3 (fun w' => w'.cell? ⟨g, off, none⟩ = some (.string p) ∧ w'.cell? ⟨g, off + 1, none⟩ = some (.string q))
          (first | exact ⟨x0, x1⟩ | exact ⟨y0 _, y1 _⟩ | assumption)
          (fail)
        change Blk ((wr.alloc (.cells #[.string p, .string q] 70)).drew) _ _ _ at X1
        change Blk ((wr.alloc (.cells #[.string p, .string q] 70)).drew) _ _ _ at Q2
        have hw2s : wr.heap.size < (wr.alloc (.cells #[.string p, .string q] 70)).drew.heap.size := X1.lt
        generalize (wr.alloc (.cells #[.string p, .string q] 70)).drew = w2 at *
        have Q2' : Hid (Blk w2 w.heap.size 70 #[.string ⟨#[]⟩, .string ⟨#[]⟩]) := Q2
        have X1' : Hid (Blk w2 wr.heap.size 70 #[.string p, .string q]) := X1
        clear Q2 X1
        obtain ⟨r0, r1, f0, f1, rl⟩ := Q2'.out.two
        obtain ⟨z0, z1, -, -, zl⟩ := X1'.out.two
        clear x0 x1 y0 y1
        cases k1 : wordOk 4 p
        · have He := Lib.hid (show parseR s = ((⟨#[]⟩, ⟨#[]⟩), false) by rw [HP.out, k1]; rfl)
          have K1 := Lib.hid k1
          clear k1
          go_wp2_with fail
          refine (specWordOk 4 p _ Ha.out).mono ?_
          rw [K1.out]
          rintro e w' ⟨rfl, rfl⟩
          go_wp2_with fail
          refine bodyPost_ret (v := .tuple #[.agg #[.string ⟨#[]⟩, .string ⟨#[]⟩], .bool false]) (by simp [results, Tryd.results51, go_sem, *]) rfl ⟨ret_rule2 He.out, ?_⟩
          exact ((hb1).setCell (by simp) _).setCell (by simp) _
        cases k2 : wordOk 4 q
        · have He := Lib.hid (show parseR s = ((⟨#[]⟩, ⟨#[]⟩), false) by rw [HP.out, k1, k2]; rfl)
          have K1 := Lib.hid k1
          have K2 := Lib.hid k2
          clear k1 k2
          go_wp2_with fail
          refine (specWordOk 4 p _ Ha.out).mono ?_
          rw [K1.out]
          rintro e w' ⟨rfl, rfl⟩
          go_wp2_with fail
          refine (specWordOk 4 q _ Hb.out).mono ?_
          rw [K2.out]
          rintro e w' ⟨rfl, rfl⟩
          go_wp2_with fail
          refine bodyPost_ret (v := .tuple #[.agg #[.string ⟨#[]⟩, .string ⟨#[]⟩], .bool false]) (by simp [results, Tryd.results51, go_sem, *]) rfl ⟨ret_rule2 He.out, ?_⟩
          exact ((hb1).setCell (by simp) _).setCell (by simp) _
        have K1 := Lib.hid k1
        have K2 := Lib.hid k2
        have HP2 := Lib.hid (show parseR s = if decide (ruleT (p, q) = s) then ((p, q), true) else ((⟨#[]⟩, ⟨#[]⟩), false) by rw [HP.out, k1, k2, ← HS.out]; rfl)
        clear k1 k2
        go_wp2_with fail
        refine (specWordOk 4 p _ Ha.out).mono ?_
        rw [K1.out]
        rintro e w' ⟨rfl, rfl⟩
        go_wp2_with fail
        refine (specWordOk 4 q _ Hb.out).mono ?_
        rw [K2.out]
        rintro e w' ⟨rfl, rfl⟩
        go_wp2_with fail
        refine (specFormatRule p q _ Ha.out Hb.out).mono ?_
        rintro e w3 ⟨rfl, hb3⟩
        have Q3 := Lib.hid (Q2'.out.below hb3 rl)
        have X3 := Lib.hid (X1'.out.below hb3 zl)
        have b3 := hb1.trans (hb3.mono (by omega))
        clear r0 r1 f0 f1 rl z0 z1 zl hb3
        obtain ⟨r0, r1, f0, f1, rl⟩ := Q3.out.two
        obtain ⟨z0, z1, -, -, zl⟩ := X3.out.two
        by_cases k3 : ruleT (p, q) = s
        · have d3 : ((ruleT (p, q)).toList == s.toList) = true := by rw [k3]; simp
          have He := Lib.hid (show parseR s = ((p, q), true) by rw [HP2.out, decide_eq_true k3]; rfl)
          clear k3
          generalize ruleT (p, q) = T at *
          go_wp2_with fail
          refine bodyPost_ret (v := .tuple #[.agg #[.string p, .string q], .bool true]) (by simp [results, Tryd.results51, go_sem, *]) rfl ⟨ret_rule2 He.out, ?_⟩
          exact (b3.setCell (by simp) _).setCell (by simp) _
        · have d3 : ((ruleT (p, q)).toList == s.toList) = false := toList_ne k3
          have He := Lib.hid (show parseR s = ((⟨#[]⟩, ⟨#[]⟩), false) by rw [HP2.out, decide_eq_false k3]; rfl)
          clear k3
          generalize ruleT (p, q) = T at *
          go_wp2_with fail
          refine bodyPost_ret (v := .tuple #[.agg #[.string ⟨#[]⟩, .string ⟨#[]⟩], .bool false]) (by simp [results, Tryd.results51, go_sem, *]) rfl ⟨ret_rule2 He.out, ?_⟩
          exact ((b3).setCell (by simp) _).setCell (by simp) _
  · have He := Lib.hid (parseR_not (s := s) (by rw [HG.out]; exact hl))
    have hq : ((G.length : Int) == 2) = false := by rw [beq_eq_false_iff_ne]; omega
    clear hl o1
    go_wp2_with fail
    refine bodyPost_ret (v := .tuple #[.agg #[.string ⟨#[]⟩, .string ⟨#[]⟩], .bool false]) (by simp [results, Tryd.results51, go_sem, *]) rfl ⟨ret_rule2 He.out, ?_⟩
    exact ((b1).setCell (by simp) _).setCell (by simp) _
end Go.Proofs.YtfkojahoaljiaaaDoor
