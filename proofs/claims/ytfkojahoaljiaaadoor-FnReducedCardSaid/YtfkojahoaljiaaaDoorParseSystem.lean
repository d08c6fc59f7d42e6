/- ParseSystem: the program's and the model's. -/
import Derived.Test.YtfkojahoaljiaaaDoorFormatSystem
import Derived.Test.YtfkojahoaljiaaaDoorParseRule
import Derived.Test.YtfkojahoaljiaaaDoorSpecParse
import Derived.Test.YtfkojahoaljiaaaDoorParse
namespace Go.Proofs.YtfkojahoaljiaaaDoor
open Go.RowKit Go.Joins

def blankParts (s : ByteArray) : List ByteArray := splitL (sepOf blank.data.toList) s.data.toList
theorem blankParts_cons (s : ByteArray) : ∃ p rest, blankParts s = p :: rest := by
  unfold blankParts splitL
  cases h : (splitSt (sepOf blank.data.toList) s.data.toList).1 with
  | nil => exact ⟨_, _, rfl⟩
  | cons a r => exact ⟨_, _, rfl⟩
theorem total_mem : ∀ (l : List ByteArray) (x : ByteArray), x ∈ l → x.size ≤ total l
  | [], _, h => by simp at h
  | a :: l, x, h => by
    show _ ≤ (List.map _ (a :: l)).sum
    rw [List.map_cons, List.sum_cons]
    rcases List.mem_cons.1 h with rfl | h
    · omega
    · have := total_mem l x h
      unfold total at this
      omega
theorem parts_small {s : ByteArray} {l : List ByteArray} (h : blankParts s = l) : ∀ x ∈ l, x.size ≤ s.size := fun x hx => by
  have h1 := total_splitL s
  have h2 := total_mem _ x (show x ∈ blankParts s by rw [h]; exact hx)
  unfold blankParts at h2
  omega
def rulesOf (rest : List ByteArray) : List R := rest.map fun x => (parseR x).1
def restOk (rest : List ByteArray) : Bool := rest.all fun x => (parseR x).2
/-- What ParseSystem answers, when the number's text gave n and b. -/
def sysOf (n : Int) (b : Bool) (rest : List ByteArray) : Int × List R × Bool := if b && restOk rest && rulesOk n (rulesOf rest) then (n, rulesOf rest, true) else (0, [], false)
theorem sysOf_no {n : Int} {b : Bool} {rest : List ByteArray} (h : (b && restOk rest && rulesOk n (rulesOf rest)) = false) : sysOf n b rest = (0, [], false) := by unfold sysOf; rw [h]; rfl
theorem sysOf_yes {n : Int} {rest : List ByteArray} (h1 : restOk rest = true) (h2 : rulesOk n (rulesOf rest) = true) : sysOf n true rest = (n, rulesOf rest, true) := by unfold sysOf; rw [h1, h2]; rfl
theorem rulesOf_step (rest : List ByteArray) (j : Nat) (x : ByteArray) (h : rest[j]? = some x) : rulesC (rulesOf (rest.take j)) ++ [Value.string (parseR x).1.1, .string (parseR x).1.2] = rulesC (rulesOf (rest.take (j + 1))) := by
  rw [take_step rest j x h]
  unfold rulesOf
  rw [List.map_append, rulesC_append]; rfl
theorem restOk_step (rest : List ByteArray) (j : Nat) (x : ByteArray) (h : rest[j]? = some x) (h1 : restOk (rest.take j) = true) (h2 : (parseR x).2 = true) : restOk (rest.take (j + 1)) = true := by
  unfold restOk at *
  rw [take_step rest j x h, List.all_append, h1]; simp [h2]
theorem restOk_bad (rest : List ByteArray) (j : Nat) (x : ByteArray) (h : rest[j]? = some x) (h2 : (parseR x).2 = false) : restOk rest = false := all_bad rest j x _ h h2
theorem rulesOf_small {s : ByteArray} {p : ByteArray} {rest : List ByteArray} (h : blankParts s = p :: rest) (hs : s.size ≤ 1048576) : smallR (rulesOf rest) := by
  intro r hr
  unfold rulesOf at hr
  obtain ⟨x, hx, rfl⟩ := List.mem_map.1 hr
  have h1 := parts_small h x (List.mem_cons_of_mem _ hx)
  have h2 := parseR_small (s := x)
  omega
/-- Whatever ParseSystem takes is formatted to the text. -/
theorem sysT_text {s p : ByteArray} {rest : List ByteArray} {n : Int} (h : blankParts s = p :: rest) (hn : itoaS n = p) (hr : restOk rest = true) : sysT n (rulesOf rest) = s := by
  have hm : (rulesOf rest).map ruleT = rest := by
    unfold rulesOf
    rw [List.map_map]
    conv => rhs; rw [← List.map_id rest]
    refine List.map_congr_left fun x hx => ?_
    exact parseR_text (List.all_eq_true.1 hr x hx)
  unfold sysT sysParts
  rw [hm, hn, ← h]
  exact join_split_blank s
def SysRet (s : ByteArray) (W : World) (e : Ending) (w' : World) : Prop := ∃ p rest n b v, blankParts s = p :: rest ∧ ParseEnd p n b ∧
  e = .returned (.tuple #[.agg #[.int .i64 (sysOf n b rest).1, v], .bool (sysOf n b rest).2.2]) ∧ Own W.heap.size w' v 2 (sysOf n b rest).2.1.length (rulesC (sysOf n b rest).2.1) ∧ Below W.heap.size W w'
theorem sysRet_no {s p : ByteArray} {rest : List ByteArray} {n : Int} {b : Bool} {W w' : World} (h : blankParts s = p :: rest) (hp : ParseEnd p n b) (hno : (b && restOk rest && rulesOk n (rulesOf rest)) = false) (hb : Below W.heap.size W w') :
    SysRet s W (.returned (.tuple #[.agg #[.int .i64 0, .slice none 0 0], .bool false])) w' :=
  ⟨p, rest, n, b, .slice none 0 0, h, hp, by rw [sysOf_no hno], by rw [sysOf_no hno]; exact Own.none_, hb⟩

theorem slice_one (A : Option Addr) (n c : Nat) (h : 1 ≤ n) (W : World) : (Instr.slice 28 (.slice A n c) (some (.int .i64 1)) none none).run Tryd.prog W = .ok (sliced A 1 n c 1) W := by
  rw [run_slice_l W 28 A n c (by kernel_rfl) .i64 1 (by omega) (by omega), show (sizeOf (Tryd.prog.elem 28)).run Tryd.prog W = .ok 1 W from by kernel_rfl]; rfl
set_option maxRecDepth 100000 in
set_option maxHeartbeats 3200000 in
theorem specParseSystem (s : ByteArray) (w : World) (hs : s.size ≤ 1048576) :
    Calls Tryd.prog 33 #[.string s] w (SysRet s w) := by
  obtain ⟨i0, hi, hz0, hz1, hz2⟩ := infoR_parts infoRule
  go_enter Tryd.func33, Tryd.ntmps33
  go_wp2_with fail
  refine (specSplitAny s ⟨#[32]⟩ _ hs (by decide)).mono ?_
  rintro e w1 ⟨v, rfl, o1, hb1⟩
  obtain ⟨A1, c1, rfl⟩ := o1.form
  have b1 := (bel1 w _).trans (hb1.mono (by simp))
  have HQ1 := Lib.hid ((Blk.new1 w _ _).below hb1 (by simp))
  clear hb1
  have hlen9 := splitL_len (sepOf blank.data.toList) s.data.toList
  have hl9 : s.data.toList.length = s.size := by simp
  generalize hG : splitL (sepOf (⟨#[32]⟩ : ByteArray).data.toList) s.data.toList = G at *
  have hG' : blankParts s = G := hG
  have hGl : G.length ≤ 1048577 := by rw [← hG']; unfold blankParts; omega
  obtain ⟨p, rest, hpr⟩ := blankParts_cons s
  rw [hG'] at hpr
  subst hpr
  have HG := Lib.hid hG'
  have Hsm := Lib.hid (parts_small hG')
  clear hG hG' hlen9 hl9
  simp only [List.length_cons] at hGl
  obtain ⟨g, off, rfl, hgB, hg, -⟩ := o1.str (by simp)
  have HO := Lib.hid o1
  have hmax := o1.bound
  unfold maxLen at hmax
  obtain ⟨-, hg0, hc0⟩ : True ∧ g < w1.heap.size ∧ w1.cell? ⟨g, off, none⟩ = some (.string p) := by
    obtain ⟨g', off', e, -, hlt, hc⟩ := o1.str (by simp)
    obtain ⟨rfl, rfl⟩ : g = g' ∧ off = off' := by injection e with e; injection e with e1 e2; exact ⟨e1, e2⟩
    obtain ⟨x, hx, hc', -⟩ := hc 0 (by simp)
    simp at hx
    subst hx
    exact ⟨trivial, hlt, hc'⟩
  clear o1
  have hp1 : p.size ≤ 1048576 := Nat.le_trans (Hsm.out p (List.mem_cons_self ..)) hs
  go_wp2_with fail
  refine (specParseInt p _ hp1).mono ?_
  rintro e w2 ⟨n, ok, rfl, HN, hb2⟩
  have b2 := b1.trans (hb2.mono b1.size)
  have HQ2 := Lib.hid (HQ1.out.below hb2 HQ1.out.lt)
  have HO2 := Lib.hid (HO.out.below hb2)
  clear hb2 hc0 hp1 HO HQ1
  obtain ⟨q0, q1, f0, f1, ql⟩ := HQ2.out.two
  cases ok
  · go_wp2_with fail
    refine bodyPost_ret (v := .tuple #[.agg #[.int .i64 0, .slice none 0 0], .bool false]) (by simp [results, Tryd.results33, go_sem, *]) rfl (sysRet_no HG.out HN rfl ?_)
    exact (b2.setCell (by simp) _).setCell (by simp) _
  clear q0 q1 f0 f1 ql
  have hsl : ∃ o2 c2, (0 < rest.length → o2 = off + 1) ∧ ∀ W : World, (Instr.slice 28 (.slice (some ⟨g, off, none⟩) (rest.length + 1) c1) (some (.int .i64 1)) none none).run Tryd.prog W = .ok (.slice (some ⟨g, o2, none⟩) rest.length c2) W := by
    by_cases hc1 : c1 = 1
    · have hr0 : rest.length = 0 := by simp at hmax; omega
      refine ⟨off, 0, fun h => by omega, fun W => ?_⟩
      rw [slice_one _ _ _ (by omega), hr0, hc1]; rfl
    · refine ⟨off + 1, c1 - 1, fun _ => rfl, fun W => ?_⟩
      rw [slice_one _ _ _ (by omega)]
      unfold sliced
      rw [if_neg hc1]; rfl
  obtain ⟨o2, c2, Ho2, hsl⟩ := hsl
  have hro := Lib.hid Ho2
  clear Ho2
  go_wp2_with fail
  have hw2s := b2.size
  have HW0 : Hid (Below w2.heap.size w2 (w2.alloc (.cells #[.int .i64 n, .slice none 0 0] 25))) := bel1 _ _
  have HQ3 : Hid (Blk (w2.alloc (.cells #[.int .i64 n, .slice none 0 0] 25)) w.heap.size 25 #[.int .i64 0, .slice none 0 0]) := Blk.alloc HQ2.out _
  go_loopw [29] (fun i wr => ∃ (j : Nat) (v : Value), j ≤ rest.length ∧ i = .int .i64 j ∧ Hid (restOk (rest.take j) = true) ∧ Hid (Blk wr w2.heap.size 25 #[.int .i64 n, v]) ∧ Hid (wr.ownsRow (w2.heap.size + 1) 70 2 v j (rulesC (rulesOf (rest.take j)))) ∧
    Hid (Blk wr w.heap.size 25 #[.int .i64 0, .slice none 0 0]) ∧ Hid (Below w2.heap.size w2 wr)) (fun i _ => rest.length - (intOf i).toNat)
  case atStart => exact ⟨0, .slice none 0 0, Nat.zero_le _, rfl, rfl, Blk.new1 _ _ _, World.ownsRow_nil _ _ _ _, HQ3, HW0⟩
  case round =>
    obtain ⟨j, v, hj, rfl, HX, HS, HR, HQ, HB⟩ := hrel
    have hbs := HB.out.size
    have hb := b2.trans (HB.out.mono hw2s)
    obtain ⟨r0, r1, f0, f1, rl⟩ := HQ.out.two
    obtain ⟨s0, s1, g0, g1, sl⟩ := HS.out.two
    by_cases hlt : j < rest.length
    · have ho2 := hro.out (by omega)
      obtain ⟨x, hx⟩ : ∃ x, rest[j]? = some x := ⟨rest[j], List.getElem?_eq_getElem hlt⟩
      have hxs : x.size ≤ 1048576 := Nat.le_trans (Hsm.out x (List.mem_cons_of_mem _ (List.mem_of_getElem? hx))) hs
      have x0 : wr.cell? ⟨g, o2 + j, none⟩ = some (.string x) := by
        obtain ⟨g', off', e, -, hlt', hc⟩ := (HO2.out.below HB.out).str (by simp)
        obtain ⟨rfl, rfl⟩ : g = g' ∧ off = off' := by injection e with e; injection e with e1 e2; exact ⟨e1, e2⟩
        obtain ⟨y, hy, hc', -⟩ := hc (j + 1) (by simp; omega)
        rw [List.getElem?_cons_succ, hx] at hy
        rw [ho2, show off + 1 + j = off + (j + 1) by omega, hc', Option.some.inj hy]
      have Hx := Lib.hid hx
      have HP := Lib.hid (specParseRule x wr hxs)
      have Hst := Lib.hid (rulesOf_step rest j x hx)
      have Hok := Lib.hid (fun h => restOk_step rest j x hx HX.out h)
      have Hbad := Lib.hid (restOk_bad rest j x hx)
      generalize parseR x = pr at *
      obtain ⟨⟨a, b⟩, cc⟩ := pr
      clear hx hxs ho2
      go_wp2_with fail
      refine HP.out.mono ?_
      rintro e w3 ⟨rfl, hb3⟩
      have b3 := hb.trans (hb3.mono hb.size)
      have B3 := Lib.hid (HB.out.trans (hb3.mono hbs))
      have HQ3 := Lib.hid (HQ.out.below hb3 rl)
      have HS3 := Lib.hid (HS.out.below hb3 sl)
      have HR3 := Lib.hid (ownsRow_below HR.out hb3)
      clear r0 r1 f0 f1 rl s0 s1 g0 g1 sl hb3 x0 HP HQ HS HR HB hb
      obtain ⟨r0, r1, f0, f1, rl⟩ := HQ3.out.two
      obtain ⟨s0, s1, g0, g1, sl⟩ := HS3.out.two
      cases cc
      · have Hno := Lib.hid (show (true && restOk rest && rulesOk n (rulesOf rest)) = false by rw [Hbad.out rfl]; rfl)
        clear s0 s1 g0 g1
        go_wp2_with fail
        refine bodyPost_ret (v := .tuple #[.agg #[.int .i64 0, .slice none 0 0], .bool false]) (by simp [results, Tryd.results33, go_sem, *]) rfl (sysRet_no HG.out HN Hno.out ?_)
        have hb3s := b3.size
        refine Below.alloc (Below.setCell (Below.setCell b3 ?_ _) ?_ _) ?_ _
        · simp
        · simp
        · simp only [World.size_setCell]; exact hb3s
      · have hbs3 := B3.out.size
        go_wp2_with (at_builtin; refine wpList_append_own _ rfl _ _ 23 rfl (w2.heap.size + 1) 70 i0 (.agg #[.string ⟨#[]⟩, .string ⟨#[]⟩]) 2 32 Tryd.underlying23 hi hz0 hz1 hz2 rfl (by decide) _ _ _ rfl ((HR3.out.alloc _).alloc _) ⟨w3.heap.size + 1, 0, none⟩ 1 1 [.string a, .string b] rfl rfl ?c1 ?c2 ?c3 ?c4 ?c5 ?_)
        case c1 =>
          intro j u hj
          match j, hj with
          | 0, hj => simp at hj; subst hj; simp [Addr.add]
          | 1, hj => simp at hj; subst hj; simp [Addr.add]
        case c2 => intro u hu; simp at hu; rcases hu with rfl | rfl <;> rfl
        case c3 => unfold maxLen; omega
        case c4 => omega
        case c5 => simp; omega
        intro v' w4 hown' hgrow _
        have hown2 : w4.ownsRow (w2.heap.size + 1) 70 2 v' (j + 1) (rulesC (rulesOf (rest.take (j + 1)))) := by rw [← Hst.out]; exact hown'
        obtain ⟨g4, o4, c4, hv4⟩ := (Own.of_row hown2).formR (by omega)
        subst hv4
        have hgb : ∀ d, d < w2.heap.size + 1 → w4.heap[d]? = w3.heap[d]? := fun d hd => by
          rw [grown_block (HR3.out.alloc _) hgrow hd (by simp; omega), Below.heap_alloc _ _ _ (by omega)]
        have HS4 : Hid (Blk w4 w2.heap.size 25 #[.int .i64 n, v]) := (hgb _ (by omega)).trans HS3.out
        have HQ4 : Hid (Blk w4 w.heap.size 25 #[.int .i64 0, .slice none 0 0]) := (hgb _ (by omega)).trans HQ3.out
        have B4 : Hid (Below w2.heap.size w2 w4) := (grown_one (HR3.out.alloc _) hgrow (B3.out.alloc hbs3 _) (Nat.le_succ _) (by simp; omega)).mono (Nat.le_refl _)
        have HR4 := Lib.hid (ownsRow_setCell_below hown2 (a := ⟨w2.heap.size, 1, none⟩) (by show w2.heap.size < _; omega) (.slice (some ⟨g4, o4, none⟩) (j + 1) c4))
        have HS5 := Lib.hid (Blk.set_ HS4.out 1 (.slice (some ⟨g4, o4, none⟩) (j + 1) c4))
        have HQ5 := Lib.hid (Blk.far HQ4.out (p := ⟨w2.heap.size, 1, none⟩) (by show w.heap.size ≠ w2.heap.size; have := HQ2.out.lt; omega) (.slice (some ⟨g4, o4, none⟩) (j + 1) c4))
        have B5 := Lib.hid (B4.out.setCell (p := ⟨w2.heap.size, 1, none⟩) (Nat.le_refl _) (.slice (some ⟨g4, o4, none⟩) (j + 1) c4))
        have Hk := Lib.hid (Hok.out (by trivial))
        clear r0 r1 f0 f1 rl s0 s1 g0 g1 sl hown' hown2 hgrow hgb
        obtain ⟨s0, s1, g0, g1, sl⟩ := HS4.out.two
        go_wp2_with fail
        go_roundw
        case rel => exact ⟨j + 1, .slice (some ⟨g4, o4, none⟩) (j + 1) c4, by omega, by go_num, Hk, HS5, HR4, HQ5, B5⟩
        case measure => simp [intOf]; omega
    · obtain rfl : j = rest.length := by omega
      have hX := HX.out
      have hR := HR.out
      rw [List.take_length] at hX hR
      have HRo := Lib.hid (Own.of_row hR)
      have HX2 := Lib.hid hX
      obtain ⟨A9, c9, rfl⟩ := HRo.out.form
      have hsmr := Lib.hid (rulesOf_small HG.out hs)
      have hlr : (rulesOf rest).length = rest.length := List.length_map ..
      clear hX hR HX HR
      go_wp2_with fail
      refine (specRulesOk n A9 _ c9 _ (rulesOf rest) _ HRo.out hsmr.out).mono ?_
      rintro e w5 ⟨rfl, hb5⟩
      have b5 := hb.trans (hb5.mono hb.size)
      have HQ5 := Lib.hid (HQ.out.below hb5 rl)
      have HS5 := Lib.hid (HS.out.below hb5 sl)
      have HR5 := Lib.hid (HRo.out.below hb5)
      clear r0 r1 f0 f1 rl s0 s1 g0 g1 sl hb5 hb
      obtain ⟨r0, r1, f0, f1, rl⟩ := HQ5.out.two
      obtain ⟨s0, s1, g0, g1, sl⟩ := HS5.out.two
      cases hk : rulesOk n (rulesOf rest)
      · have Hno := Lib.hid (show (true && restOk rest && rulesOk n (rulesOf rest)) = false by rw [hk]; simp)
        clear s0 s1 g0 g1 hk
        go_wp2_with fail
        refine bodyPost_ret (v := .tuple #[.agg #[.int .i64 0, .slice none 0 0], .bool false]) (by simp [results, Tryd.results33, go_sem, *]) rfl (sysRet_no HG.out HN Hno.out ?_)
        refine Below.setCell (Below.setCell b5 ?_ _) ?_ _ <;> simp
      · have Hy := Lib.hid (sysOf_yes HX2.out hk)
        have Hsys := Lib.hid (show sysAns n (rulesOf rest) = s by
          unfold sysAns
          rw [hk, if_pos rfl]
          rcases HN with ⟨-, h1, -⟩ | ⟨h1, -⟩
          · exact sysT_text HG.out h1 HX2.out
          · cases h1)
        clear hk
        go_wp2_with fail
        refine (specFormatSystem n A9 _ c9 _ (rulesOf rest) _ HR5.out hsmr.out).mono ?_
        rw [Hsys.out]
        rintro e w6 ⟨rfl, hb6⟩
        have b6 := b5.trans (hb6.mono b5.size)
        have HQ6 := Lib.hid (HQ5.out.below hb6 rl)
        have HS6 := Lib.hid (HS5.out.below hb6 sl)
        have HR6 := Lib.hid (HR5.out.below hb6)
        clear r0 r1 f0 f1 rl s0 s1 g0 g1 sl hb6
        obtain ⟨r0, r1, f0, f1, rl⟩ := HQ6.out.two
        obtain ⟨s0, s1, g0, g1, sl⟩ := HS6.out.two
        go_wp2_with fail
        refine bodyPost_ret (v := .tuple #[.agg #[.int .i64 n, .slice A9 rest.length c9], .bool true]) (by simp [results, Tryd.results33, go_sem, *]) rfl ⟨p, rest, n, true, .slice A9 rest.length c9, HG.out, HN, by rw [Hy.out], ?_, ?_⟩
        · rw [Hy.out, hlr]
          exact ((HR6.out.far (by simp; omega) _).far (by simp; omega) _).mono (by omega)
        · refine Below.setCell (Below.setCell b6 ?_ _) ?_ _ <;> simp
end Go.Proofs.YtfkojahoaljiaaaDoor
