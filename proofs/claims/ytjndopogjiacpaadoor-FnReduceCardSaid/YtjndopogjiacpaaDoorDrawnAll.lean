/- Draw MakeWord Orient ParseSystem DrawSystem MakeSystem, one behind the other. -/
import Derived.Test.YtjndopogjiacpaaDoorBelow
import Derived.Test.YtjndopogjiacpaaDoorStrs
import Derived.Test.YtjndopogjiacpaaDoorLetters
import Derived.Test.YtjndopogjiacpaaDoorOneByte
import Derived.Deep.RegionWith
import Derived.Test.YtjndopogjiacpaaDoorRulesOk
import Derived.Test.YtjndopogjiacpaaDoorOrder
import Derived.Test.YtjndopogjiacpaaDoorFormatSystem
import Derived.Test.YtjndopogjiacpaaDoorParseRule
import Derived.Test.YtjndopogjiacpaaDoorSpecParse
import Derived.Test.YtjndopogjiacpaaDoorParse
import Derived.Test.YtjndopogjiacpaaDoorWait
import Derived.Deep.Cut
import Derived.Deep.CutRange
import Derived.Deep.RegionHeld3
namespace Go.Proofs.YtjndopogjiacpaaDoor
open Go.RowKit Go.Joins

def StrPost (W : World) (g : Nat) (A : Option Addr) (n c : Nat) (L : List ByteArray) (e : Ending) (w' : World) : Prop :=
  ∃ s, e = .returned (.string s) ∧ s ∈ L ∧ Cur w' g A n c ∧ W.grownBy w' (some g)

set_option maxHeartbeats 800000 in
theorem l01Str_any (g : Nat) (A : Option Addr) (n c q m : Nat) (L : List ByteArray) (w : World) (h : Cur w g A n c) (hq : q ≠ g) (hL : w.heap[q]? = some (.cells (strs L).toArray 9 (0, 0))) (hm : L.length = m) (h0 : 0 < m) (h1 : m ≤ 256) :
    Calls Tryd.prog 73 #[.pointer (some ⟨g, 0, none⟩), .slice (some ⟨q, 0, none⟩) m m] w (StrPost w g A n c L) := by
  have H := Lib.hid h
  have HL := Lib.hid hL
  have Hm := Lib.hid hm
  clear h hL hm
  go_enter Tryd.func73, Tryd.ntmps73
  go_wp2_with (go_at_call 71; refine (l01Below_small g A n c m _ H.out h0 h1).mono ?_)
  rintro e w1 ⟨r, rfl, hr, hC, hG⟩
  have HC := Lib.hid hC
  have HG := Lib.hid hG
  clear hC hG
  have hx : w1.cell? ⟨q, r, none⟩ = some (.string (L[r]'(by rw [Hm.out]; exact hr))) := by
    have hb : w1.heap[q]? = some (.cells (strs L).toArray 9 (0, 0)) := (HG.out.block q (Array.getElem?_eq_some_iff.1 HL.out).1 (fun e => by injection e with e; exact hq e)).trans HL.out
    rw [cell_of_row _ _ _ _ _ _ hb]
    have := Hm.out
    simp [strs, hr, this]
  have hmem : L[r]'(by rw [Hm.out]; exact hr) ∈ L := List.getElem_mem _
  have Hmem := Lib.hid hmem
  clear hmem
  generalize L[r]'(by rw [Hm.out]; exact hr) = s at *
  go_wp2_with fail
  go_ret
  exact ⟨s, rfl, Hmem.out, HC.out, HG.out⟩

def TextPost (W : World) (e : Ending) (w' : World) : Prop := ∃ s : ByteArray, e = .returned (.string s) ∧ s.size ≤ 14 ∧ Below W.heap.size W w'

def words5 : List ByteArray := [⟨#[97]⟩, ⟨#[98, 99]⟩, ⟨#[32]⟩, ⟨#[44]⟩, ⟨#[120, 49]⟩]
theorem words5_size (x : ByteArray) (h : x ∈ words5) : x.size ≤ 2 := by
  simp only [words5, List.mem_cons, List.not_mem_nil, or_false] at h
  rcases h with rfl | rfl | rfl | rfl | rfl <;> decide

end Go.Proofs.YtjndopogjiacpaaDoor

namespace Go.Proofs.YtjndopogjiacpaaDoor
open Go.RowKit Go.Joins

def DrawPost (W : World) (g : Nat) (A : Option Addr) (n c k most : Nat) (e : Ending) (w' : World) : Prop :=
  ∃ s, e = .returned (.string s) ∧ written k s = true ∧ s.size ≤ most ∧ Cur w' g A n c ∧ W.grownBy w' (some g)
theorem grown_alloc (w : World) (g : Nat) (o : Obj) : w.grownBy (w.alloc o) (some g) := ⟨rfl, rfl, rfl, by simp, fun k hk _ => Below.heap_alloc _ _ _ hk⟩
theorem written_nil (k : Nat) : written k ⟨#[]⟩ = true := rfl
theorem written_append (k : Nat) (s t : ByteArray) : written k (s ++ t) = (written k s && written k t) := by
  unfold written
  rw [ByteArray.data_append, Array.toList_append, List.all_append]
theorem written_one (k x : Nat) (hx : x < k) (hk : k ≤ 4) : written k ⟨#[UInt8.ofNat (97 + x)]⟩ = true := by
  match x, hx with
  | 0, hx => simp [written, among]; omega
  | 1, hx => simp [written, among]; omega
  | 2, hx => simp [written, among]; omega
  | 3, hx => simp [written, among]; omega
  | x + 4, hx => omega

set_option maxHeartbeats 800000 in
theorem l02Draw_any (g : Nat) (A : Option Addr) (n c k most : Nat) (w : World) (h : Cur w g A n c) (hk0 : 0 < k) (hk : k ≤ 4) (hm : most ≤ 100) :
    Calls Tryd.prog 50 #[.pointer (some ⟨g, 0, none⟩), .int .i64 k, .int .i64 most] w (DrawPost w g A n c k most) := by
  have H := Lib.hid h
  clear h
  obtain ⟨m1, hm0, hm1⟩ : ∃ m1 : Nat, m1 = most + 1 ∧ (most : Int) + 1 = (m1 : Int) := ⟨most + 1, rfl, by omega⟩
  have Hm0 := Lib.hid hm0
  have hm2 : m1 ≤ 101 := by omega
  clear hm0
  go_enter Tryd.func50, Tryd.ntmps50
  go_wp2_with (go_at_call 71; refine (l01Below_small g A n c m1 _ H.out (by have := Hm0.out; omega) (by omega)).mono ?_)
  rintro e w1 ⟨r, rfl, hr, hC, hG⟩
  have HC := Lib.hid hC
  have HG := Lib.hid hG
  clear hC hG
  go_wp2_with fail
  go_loopw [7, 8] (fun v i wr => ∃ (q : Nat) (s : ByteArray), v = .string s ∧ i = .int .i64 q ∧ q + s.size = r ∧ Hid (written k s = true) ∧ Hid (Cur wr g A n c) ∧ Hid (w.grownBy wr (some g))) (fun _ i _ => (intOf i).toNat)
  case atStart => exact ⟨r, ⟨#[]⟩, rfl, rfl, rfl, written_nil k, HC, HG⟩
  case round =>
    obtain ⟨q, s, rfl, rfl, hqs, HW, HC2, HG2⟩ := hrel
    by_cases hq : 0 < q
    · go_wp2_with (go_at_call 71; refine (l01Below_small g A n c k _ HC2.out hk0 (by omega)).mono ?_)
      rintro e w2 ⟨x, rfl, hx, hC3, hG3⟩
      have hcv := one_byte (P := Tryd.prog) Tryd.underlying22 Tryd.underlying5 Tryd.underlying9 w2 (97 + (x : Int)) (by omega) (by omega)
      have hyw : (97 + (x : Int)) % 256 = 97 + (x : Int) := by omega
      have hb97 : (97 + (x : Int)).toNat = 97 + x := by omega
      rw [hb97] at hcv
      have HW2 := Lib.hid (show written k (s ++ ⟨#[UInt8.ofNat (97 + x)]⟩) = true by rw [written_append, HW.out, written_one k x hx hk]; rfl)
      have hz := ByteArray.size_append (a := s) (b := ⟨#[UInt8.ofNat (97 + x)]⟩)
      have hz1 : (⟨#[UInt8.ofNat (97 + x)]⟩ : ByteArray).size = 1 := rfl
      have HC4 := Lib.hid (hC3.below ((Below.refl w2.heap.size w2).alloc (Nat.le_refl _) (.cells #[.int .u8 (97 + (x : Int))] 5)))
      have HG4 := Lib.hid (grown_trans' (grown_trans' HG2.out hG3) (grown_alloc w2 g (.cells #[.int .u8 (97 + (x : Int))] 5)))
      clear hC3 hG3
      generalize (⟨#[UInt8.ofNat (97 + x)]⟩ : ByteArray) = b at *
      go_wp2_with fail
      go_roundw
      case rel => exact ⟨q - 1, s ++ b, rfl, by go_num, by rw [hz]; omega, HW2, HC4, HG4⟩
      case measure => simp [intOf]; omega
    · go_wp2_with fail
      go_ret
      exact ⟨s, rfl, HW.out, by have := Hm0.out; omega, HC2.out, HG2.out⟩

def WordPost (W : World) (k most : Nat) (e : Ending) (w' : World) : Prop := ∃ s, e = .returned (.string s) ∧ written k s = true ∧ s.size ≤ most ∧ Below W.heap.size W w'

set_option maxHeartbeats 800000 in
theorem MakeWord_any (A : Option Addr) (n c m k most : Nat) (w : World) (h : InB w A n c) (hn : n ≤ 1048576) (hm : m ≤ 1000000) (hk0 : 1 ≤ k) (hk : k ≤ 4) (h16 : most ≤ 16) :
    Calls Tryd.prog 15 #[.slice A n c, .int .i64 m, .int .i64 k, .int .i64 most] w (WordPost w k most) := by
  have e1 : (if (4 : Int) < (k : Int) then (4 : Int) else (k : Int)) = (k : Int) := if_neg (by omega)
  have e2 : (if (1 : Int) < (k : Int) then (k : Int) else (1 : Int)) = (k : Int) := by split <;> omega
  have e3 : (if (16 : Int) < (most : Int) then (16 : Int) else (most : Int)) = (most : Int) := if_neg (by omega)
  have e4 : (if 0 < most then (most : Int) else (0 : Int)) = (most : Int) := by split <;> omega
  have e5 : ¬ (4 : Int) < (k : Int) := by omega
  have e6 : ¬ (16 : Int) < (most : Int) := by omega
  go_enter Tryd.func15, Tryd.ntmps15
  go_wp2_with (go_at_call 49; refine (l31New_any A n c m _ h hn hm).mono ?_)
  rintro e w1 ⟨g, rfl, hg, hC, hb⟩
  have hs := hb.size
  go_wp2_with (go_at_call 50; refine (l02Draw_any g A n c k most _ hC hk0 hk (by omega)).mono ?_)
  rintro e w2 ⟨s, rfl, hw, hz, hC2, hG⟩
  have hb2 := below_grown hb hG hg hs
  clear hC hC2 hG
  have Hw := Lib.hid hw
  clear hw
  go_wp2_with fail
  go_ret
  exact ⟨s, rfl, Hw.out, hz, hb2⟩
end Go.Proofs.YtjndopogjiacpaaDoor

namespace Go.Proofs.YtjndopogjiacpaaDoor
open Go.RowKit

/-- What OrientRule answers. -/
def oriented (r : R) : R := if lessS r.1 r.2 then (r.2, r.1) else r
def canOrient (k : Int) (r : R) : Bool := sidesOk k r && !decide (r.1 = r.2)
def noRule : R := (⟨#[]⟩, ⟨#[]⟩)
def orientOf (k : Int) (r : R) : R := if canOrient k r then oriented r else noRule

theorem orient_no1 {k : Int} {u v : ByteArray} (h : sidesOk k (u, v) = false) : orientOf k (u, v) = noRule ∧ canOrient k (u, v) = false := by simp [orientOf, canOrient, h]
theorem orient_no2 {k : Int} (u : ByteArray) : orientOf k (u, u) = noRule ∧ canOrient k (u, u) = false := by simp [orientOf, canOrient]
theorem orient_1 {k : Int} {u v : ByteArray} (h : sidesOk k (u, v) = true) (hn : u ≠ v) (hl : lessS u v = true) : orientOf k (u, v) = (v, u) ∧ canOrient k (u, v) = true := by simp [orientOf, canOrient, oriented, h, hn, hl]
theorem orient_2 {k : Int} {u v : ByteArray} (h : sidesOk k (u, v) = true) (hn : u ≠ v) (hl : lessS u v = false) : orientOf k (u, v) = (u, v) ∧ canOrient k (u, v) = true := by simp [orientOf, canOrient, oriented, h, hn, hl]
theorem ret_rule {a b : R} {p q : Bool} (h : a = b ∧ p = q) : Ending.returned (.tuple #[ruleV b, .bool q]) = Ending.returned (.tuple #[ruleV a, .bool p]) := by rw [h.1, h.2]

set_option maxRecDepth 100000 in
set_option maxHeartbeats 800000 in
theorem specOrientRule (k : Int) (u v : ByteArray) (w : World) (hu : u.size ≤ 1048576) (hv : v.size ≤ 1048576) :
    Calls Tryd.prog 75 #[.int .i64 k, .agg #[.string u, .string v]] w fun e w' => e = .returned (.tuple #[ruleV (orientOf k (u, v)), .bool (canOrient k (u, v))]) ∧ Below w.heap.size w w' := by
  have Hu : Hid (u.size ≤ 1048576) := hu
  have Hv : Hid (v.size ≤ 1048576) := hv
  clear hu hv
  go_enter Tryd.func75, Tryd.ntmps75
  go_wp2_with fail
  refine (specSidesOk k u v _ Hu.out Hv.out).mono ?_
  rintro e w1 ⟨rfl, hb1⟩
  have b1 := (bel2 w _ _).trans (hb1.mono (by simp; omega))
  obtain ⟨q0, q1, -, -, ql⟩ := (((Blk.new1 w _ _).alloc _).below hb1 (by simp; omega)).two
  obtain ⟨r0, r1, f0, f1, rl⟩ := ((Blk.new2 w _ _ _).below hb1 (by simp)).two
  clear hb1
  cases h1 : sidesOk k (u, v)
  · have He := Lib.hid (orient_no1 h1)
    clear h1
    go_wp2_with fail
    refine bodyPost_ret (v := .tuple #[.agg #[.string ⟨#[]⟩, .string ⟨#[]⟩], .bool false]) (by simp [results, Tryd.results75, go_sem, *]) rfl ⟨ret_rule He.out, ?_⟩
    exact (b1.setCell (by simp) _).setCell (by simp) _
  by_cases hn : u = v
  · subst hn
    have He := Lib.hid (orient_no2 (k := k) u)
    clear h1
    go_wp2_with fail
    refine bodyPost_ret (v := .tuple #[.agg #[.string ⟨#[]⟩, .string ⟨#[]⟩], .bool false]) (by simp [results, Tryd.results75, go_sem, *]) rfl ⟨ret_rule He.out, ?_⟩
    exact (b1.setCell (by simp) _).setCell (by simp) _
  have hd : (u.toList == v.toList) = false := toList_ne hn
  cases hl : lessS u v
  · have He := Lib.hid (orient_2 h1 hn hl)
    have Hl := Lib.hid hl
    clear h1 hn hl
    go_wp2_with fail
    refine (specIsLess u v _).mono ?_
    rintro e w2 ⟨rfl, rfl⟩
    rw [Hl.out]
    go_wp2_with fail
    refine bodyPost_ret (v := .tuple #[.agg #[.string u, .string v], .bool true]) (by simp [results, Tryd.results75, go_sem, *]) rfl ⟨ret_rule He.out, ?_⟩
    exact (b1.setCell (by simp) _).setCell (by simp) _
  · have He := Lib.hid (orient_1 h1 hn hl)
    have Hl := Lib.hid hl
    clear h1 hn hl
    go_wp2_with fail
    refine (specIsLess u v _).mono ?_
    rintro e w2 ⟨rfl, rfl⟩
    rw [Hl.out]
    go_wp2_with fail
    refine bodyPost_ret (v := .tuple #[.agg #[.string v, .string u], .bool true]) (by simp [results, Tryd.results75, go_sem, *]) rfl ⟨ret_rule He.out, ?_⟩
    exact (b1.setCell (by simp) _).setCell (by simp) _

end Go.Proofs.YtjndopogjiacpaaDoor

namespace Go.Proofs.YtjndopogjiacpaaDoor
open Go.RowKit Go.Joins

def blankParts (s : ByteArray) : List ByteArray := splitL (sepOf blank.data.toList) s.data.toList
theorem blankParts_cons (s : ByteArray) : ∃ p rest, blankParts s = p :: rest := by
  unfold blankParts splitL
  cases h : (splitSt (sepOf blank.data.toList) s.data.toList).1 with
  | nil => exact ⟨_, _, rfl⟩
  | cons a r => exact ⟨_, _, rfl⟩
theorem total_mem : ∀ (l : List ByteArray) (x : ByteArray), x ∈ l → x.size ≤ total l
  | [], _, h => by simp at h
  | a :: l, x, h => by
    show _ ≤ (List.map _ (a :: l)).sum
    rw [List.map_cons, List.sum_cons]
    rcases List.mem_cons.1 h with rfl | h
    · omega
    · have := total_mem l x h
      unfold total at this
      omega
theorem parts_small {s : ByteArray} {l : List ByteArray} (h : blankParts s = l) : ∀ x ∈ l, x.size ≤ s.size := fun x hx => by
  have h1 := total_splitL s
  have h2 := total_mem _ x (show x ∈ blankParts s by rw [h]; exact hx)
  unfold blankParts at h2
  omega
def rulesOf (rest : List ByteArray) : List R := rest.map fun x => (parseR x).1
def restOk (rest : List ByteArray) : Bool := rest.all fun x => (parseR x).2
/-- What ParseSystem answers, when the number's text gave n and b. -/
def sysOf (n : Int) (b : Bool) (rest : List ByteArray) : Int × List R × Bool := if b && restOk rest && rulesOk n (rulesOf rest) then (n, rulesOf rest, true) else (0, [], false)
theorem sysOf_no {n : Int} {b : Bool} {rest : List ByteArray} (h : (b && restOk rest && rulesOk n (rulesOf rest)) = false) : sysOf n b rest = (0, [], false) := by unfold sysOf; rw [h]; rfl
theorem sysOf_yes {n : Int} {rest : List ByteArray} (h1 : restOk rest = true) (h2 : rulesOk n (rulesOf rest) = true) : sysOf n true rest = (n, rulesOf rest, true) := by unfold sysOf; rw [h1, h2]; rfl
theorem rulesOf_step (rest : List ByteArray) (j : Nat) (x : ByteArray) (h : rest[j]? = some x) : rulesC (rulesOf (rest.take j)) ++ [Value.string (parseR x).1.1, .string (parseR x).1.2] = rulesC (rulesOf (rest.take (j + 1))) := by
  rw [take_step rest j x h]
  unfold rulesOf
  rw [List.map_append, rulesC_append]; rfl
theorem restOk_step (rest : List ByteArray) (j : Nat) (x : ByteArray) (h : rest[j]? = some x) (h1 : restOk (rest.take j) = true) (h2 : (parseR x).2 = true) : restOk (rest.take (j + 1)) = true := by
  unfold restOk at *
  rw [take_step rest j x h, List.all_append, h1]; simp [h2]
theorem restOk_bad (rest : List ByteArray) (j : Nat) (x : ByteArray) (h : rest[j]? = some x) (h2 : (parseR x).2 = false) : restOk rest = false := all_bad rest j x _ h h2
theorem rulesOf_small {s : ByteArray} {p : ByteArray} {rest : List ByteArray} (h : blankParts s = p :: rest) (hs : s.size ≤ 1048576) : smallR (rulesOf rest) := by
  intro r hr
  unfold rulesOf at hr
  obtain ⟨x, hx, rfl⟩ := List.mem_map.1 hr
  have h1 := parts_small h x (List.mem_cons_of_mem _ hx)
  have h2 := parseR_small (s := x)
  omega
/-- Whatever ParseSystem takes is formatted to the text. -/
theorem sysT_text {s p : ByteArray} {rest : List ByteArray} {n : Int} (h : blankParts s = p :: rest) (hn : itoaS n = p) (hr : restOk rest = true) : sysT n (rulesOf rest) = s := by
  have hm : (rulesOf rest).map ruleT = rest := by
    unfold rulesOf
    rw [List.map_map]
    conv => rhs; rw [← List.map_id rest]
    refine List.map_congr_left fun x hx => ?_
    exact parseR_text (List.all_eq_true.1 hr x hx)
  unfold sysT sysParts
  rw [hm, hn, ← h]
  exact join_split_blank s
def SysRet (s : ByteArray) (W : World) (e : Ending) (w' : World) : Prop := ∃ p rest n b v, blankParts s = p :: rest ∧ ParseEnd p n b ∧
  e = .returned (.tuple #[.agg #[.int .i64 (sysOf n b rest).1, v], .bool (sysOf n b rest).2.2]) ∧ Own W.heap.size w' v 2 (sysOf n b rest).2.1.length (rulesC (sysOf n b rest).2.1) ∧ Below W.heap.size W w'
theorem sysRet_no {s p : ByteArray} {rest : List ByteArray} {n : Int} {b : Bool} {W w' : World} (h : blankParts s = p :: rest) (hp : ParseEnd p n b) (hno : (b && restOk rest && rulesOk n (rulesOf rest)) = false) (hb : Below W.heap.size W w') :
    SysRet s W (.returned (.tuple #[.agg #[.int .i64 0, .slice none 0 0], .bool false])) w' :=
  ⟨p, rest, n, b, .slice none 0 0, h, hp, by rw [sysOf_no hno], by rw [sysOf_no hno]; exact Own.none_, hb⟩

theorem slice_one (A : Option Addr) (n c : Nat) (h : 1 ≤ n) (W : World) : (Instr.slice 76 (.slice A n c) (some (.int .i64 1)) none none).run Tryd.prog W = .ok (sliced A 1 n c 1) W := by
  rw [run_slice_l W 76 A n c (by kernel_rfl) .i64 1 (by omega) (by omega), show (sizeOf (Tryd.prog.elem 76)).run Tryd.prog W = .ok 1 W from by kernel_rfl]; rfl
set_option maxRecDepth 100000 in
set_option maxHeartbeats 3200000 in
theorem specParseSystem (s : ByteArray) (w : World) (hs : s.size ≤ 1048576) :
    Calls Tryd.prog 72 #[.string s] w (SysRet s w) := by
  obtain ⟨i0, hi, hz0, hz1, hz2⟩ := infoR_parts infoRule
  go_enter Tryd.func72, Tryd.ntmps72
  go_wp2_with fail
  refine (specSplitAny s ⟨#[32]⟩ _ hs (by decide)).mono ?_
  rintro e w1 ⟨v, rfl, o1, hb1⟩
  obtain ⟨A1, c1, rfl⟩ := o1.form
  have b1 := (bel1 w _).trans (hb1.mono (by simp))
  have HQ1 := Lib.hid ((Blk.new1 w _ _).below hb1 (by simp))
  clear hb1
  have hlen9 := splitL_len (sepOf blank.data.toList) s.data.toList
  have hl9 : s.data.toList.length = s.size := by simp
  generalize hG : splitL (sepOf (⟨#[32]⟩ : ByteArray).data.toList) s.data.toList = G at *
  have hG' : blankParts s = G := hG
  have hGl : G.length ≤ 1048577 := by rw [← hG']; unfold blankParts; omega
  obtain ⟨p, rest, hpr⟩ := blankParts_cons s
  rw [hG'] at hpr
  subst hpr
  have HG := Lib.hid hG'
  have Hsm := Lib.hid (parts_small hG')
  clear hG hG' hlen9 hl9
  simp only [List.length_cons] at hGl
  obtain ⟨g, off, rfl, hgB, hg, -⟩ := o1.str (by simp)
  have HO := Lib.hid o1
  have hmax := o1.bound
  unfold maxLen at hmax
  obtain ⟨-, hg0, hc0⟩ : True ∧ g < w1.heap.size ∧ w1.cell? ⟨g, off, none⟩ = some (.string p) := by
    obtain ⟨g', off', e, -, hlt, hc⟩ := o1.str (by simp)
    obtain ⟨rfl, rfl⟩ : g = g' ∧ off = off' := by injection e with e; injection e with e1 e2; exact ⟨e1, e2⟩
    obtain ⟨x, hx, hc', -⟩ := hc 0 (by simp)
    simp at hx
    subst hx
    exact ⟨trivial, hlt, hc'⟩
  clear o1
  have hp1 : p.size ≤ 1048576 := Nat.le_trans (Hsm.out p (List.mem_cons_self ..)) hs
  go_wp2_with fail
  refine (specParseInt p _ hp1).mono ?_
  rintro e w2 ⟨n, ok, rfl, HN, hb2⟩
  have b2 := b1.trans (hb2.mono b1.size)
  have HQ2 := Lib.hid (HQ1.out.below hb2 HQ1.out.lt)
  have HO2 := Lib.hid (HO.out.below hb2)
  clear hb2 hc0 hp1 HO HQ1
  obtain ⟨q0, q1, f0, f1, ql⟩ := HQ2.out.two
  cases ok
  · go_wp2_with fail
    refine bodyPost_ret (v := .tuple #[.agg #[.int .i64 0, .slice none 0 0], .bool false]) (by simp [results, Tryd.results72, go_sem, *]) rfl (sysRet_no HG.out HN rfl ?_)
    exact (b2.setCell (by simp) _).setCell (by simp) _
  clear q0 q1 f0 f1 ql
  have hsl : ∃ o2 c2, (0 < rest.length → o2 = off + 1) ∧ ∀ W : World, (Instr.slice 76 (.slice (some ⟨g, off, none⟩) (rest.length + 1) c1) (some (.int .i64 1)) none none).run Tryd.prog W = .ok (.slice (some ⟨g, o2, none⟩) rest.length c2) W := by
    by_cases hc1 : c1 = 1
    · have hr0 : rest.length = 0 := by simp at hmax; omega
      refine ⟨off, 0, fun h => by omega, fun W => ?_⟩
      rw [slice_one _ _ _ (by omega), hr0, hc1]; rfl
    · refine ⟨off + 1, c1 - 1, fun _ => rfl, fun W => ?_⟩
      rw [slice_one _ _ _ (by omega)]
      unfold sliced
      rw [if_neg hc1]; rfl
  obtain ⟨o2, c2, Ho2, hsl⟩ := hsl
  have hro := Lib.hid Ho2
  clear Ho2
  go_wp2_with fail
  have hw2s := b2.size
  have HW0 : Hid (Below w2.heap.size w2 (w2.alloc (.cells #[.int .i64 n, .slice none 0 0] 25))) := bel1 _ _
  have HQ3 : Hid (Blk (w2.alloc (.cells #[.int .i64 n, .slice none 0 0] 25)) w.heap.size 25 #[.int .i64 0, .slice none 0 0]) := Blk.alloc HQ2.out _
  go_loopw [29] (fun i wr => ∃ (j : Nat) (v : Value), j ≤ rest.length ∧ i = .int .i64 j ∧ Hid (restOk (rest.take j) = true) ∧ Hid (Blk wr w2.heap.size 25 #[.int .i64 n, v]) ∧ Hid (wr.ownsRow (w2.heap.size + 1) 83 2 v j (rulesC (rulesOf (rest.take j)))) ∧
    Hid (Blk wr w.heap.size 25 #[.int .i64 0, .slice none 0 0]) ∧ Hid (Below w2.heap.size w2 wr)) (fun i _ => rest.length - (intOf i).toNat)
  case atStart => exact ⟨0, .slice none 0 0, Nat.zero_le _, rfl, rfl, Blk.new1 _ _ _, World.ownsRow_nil _ _ _ _, HQ3, HW0⟩
  case round =>
    obtain ⟨j, v, hj, rfl, HX, HS, HR, HQ, HB⟩ := hrel
    have hbs := HB.out.size
    have hb := b2.trans (HB.out.mono hw2s)
    obtain ⟨r0, r1, f0, f1, rl⟩ := HQ.out.two
    obtain ⟨s0, s1, g0, g1, sl⟩ := HS.out.two
    by_cases hlt : j < rest.length
    · have ho2 := hro.out (by omega)
      obtain ⟨x, hx⟩ : ∃ x, rest[j]? = some x := ⟨rest[j], List.getElem?_eq_getElem hlt⟩
      have hxs : x.size ≤ 1048576 := Nat.le_trans (Hsm.out x (List.mem_cons_of_mem _ (List.mem_of_getElem? hx))) hs
      have x0 : wr.cell? ⟨g, o2 + j, none⟩ = some (.string x) := by
        obtain ⟨g', off', e, -, hlt', hc⟩ := (HO2.out.below HB.out).str (by simp)
        obtain ⟨rfl, rfl⟩ : g = g' ∧ off = off' := by injection e with e; injection e with e1 e2; exact ⟨e1, e2⟩
        obtain ⟨y, hy, hc', -⟩ := hc (j + 1) (by simp; omega)
        rw [List.getElem?_cons_succ, hx] at hy
        rw [ho2, show off + 1 + j = off + (j + 1) by omega, hc', Option.some.inj hy]
      have Hx := Lib.hid hx
      have HP := Lib.hid (specParseRule x wr hxs)
      have Hst := Lib.hid (rulesOf_step rest j x hx)
      have Hok := Lib.hid (fun h => restOk_step rest j x hx HX.out h)
      have Hbad := Lib.hid (restOk_bad rest j x hx)
      generalize parseR x = pr at *
      obtain ⟨⟨a, b⟩, cc⟩ := pr
      clear hx hxs ho2
      go_wp2_with fail
      refine HP.out.mono ?_
      rintro e w3 ⟨rfl, hb3⟩
      have b3 := hb.trans (hb3.mono hb.size)
      have B3 := Lib.hid (HB.out.trans (hb3.mono hbs))
      have HQ3 := Lib.hid (HQ.out.below hb3 rl)
      have HS3 := Lib.hid (HS.out.below hb3 sl)
      have HR3 := Lib.hid (ownsRow_below HR.out hb3)
      clear r0 r1 f0 f1 rl s0 s1 g0 g1 sl hb3 x0 HP HQ HS HR HB hb
      obtain ⟨r0, r1, f0, f1, rl⟩ := HQ3.out.two
      obtain ⟨s0, s1, g0, g1, sl⟩ := HS3.out.two
      cases cc
      · have Hno := Lib.hid (show (true && restOk rest && rulesOk n (rulesOf rest)) = false by rw [Hbad.out rfl]; rfl)
        clear s0 s1 g0 g1
        go_wp2_with fail
        refine bodyPost_ret (v := .tuple #[.agg #[.int .i64 0, .slice none 0 0], .bool false]) (by simp [results, Tryd.results72, go_sem, *]) rfl (sysRet_no HG.out HN Hno.out ?_)
        have hb3s := b3.size
        refine Below.alloc (Below.setCell (Below.setCell b3 ?_ _) ?_ _) ?_ _
        · simp
        · simp
        · simp only [World.size_setCell]; exact hb3s
      · have hbs3 := B3.out.size
        go_wp2_with (at_builtin; refine wpList_append_own _ rfl _ _ 23 rfl (w2.heap.size + 1) 83 i0 (.agg #[.string ⟨#[]⟩, .string ⟨#[]⟩]) 2 32 Tryd.underlying23 hi hz0 hz1 hz2 rfl (by decide) _ _ _ rfl ((HR3.out.alloc _).alloc _) ⟨w3.heap.size + 1, 0, none⟩ 1 1 [.string a, .string b] rfl rfl ?c1 ?c2 ?c3 ?c4 ?c5 ?_)
        case c1 =>
          intro j u hj
          match j, hj with
          | 0, hj => simp at hj; subst hj; simp [Addr.add]
          | 1, hj => simp at hj; subst hj; simp [Addr.add]
        case c2 => intro u hu; simp at hu; rcases hu with rfl | rfl <;> rfl
        case c3 => unfold maxLen; omega
        case c4 => omega
        case c5 => simp; omega
        intro v' w4 hown' hgrow _
        have hown2 : w4.ownsRow (w2.heap.size + 1) 83 2 v' (j + 1) (rulesC (rulesOf (rest.take (j + 1)))) := by rw [← Hst.out]; exact hown'
        obtain ⟨g4, o4, c4, hv4⟩ := (Own.of_row hown2).formR (by omega)
        subst hv4
        have hgb : ∀ d, d < w2.heap.size + 1 → w4.heap[d]? = w3.heap[d]? := fun d hd => by
          rw [grown_block (HR3.out.alloc _) hgrow hd (by simp; omega), Below.heap_alloc _ _ _ (by omega)]
        have HS4 : Hid (Blk w4 w2.heap.size 25 #[.int .i64 n, v]) := (hgb _ (by omega)).trans HS3.out
        have HQ4 : Hid (Blk w4 w.heap.size 25 #[.int .i64 0, .slice none 0 0]) := (hgb _ (by omega)).trans HQ3.out
        have B4 : Hid (Below w2.heap.size w2 w4) := (grown_one (HR3.out.alloc _) hgrow (B3.out.alloc hbs3 _) (Nat.le_succ _) (by simp; omega)).mono (Nat.le_refl _)
        have HR4 := Lib.hid (ownsRow_setCell_below hown2 (a := ⟨w2.heap.size, 1, none⟩) (by show w2.heap.size < _; omega) (.slice (some ⟨g4, o4, none⟩) (j + 1) c4))
        have HS5 := Lib.hid (Blk.set_ HS4.out 1 (.slice (some ⟨g4, o4, none⟩) (j + 1) c4))
        have HQ5 := Lib.hid (Blk.far HQ4.out (p := ⟨w2.heap.size, 1, none⟩) (by show w.heap.size ≠ w2.heap.size; have := HQ2.out.lt; omega) (.slice (some ⟨g4, o4, none⟩) (j + 1) c4))
        have B5 := Lib.hid (B4.out.setCell (p := ⟨w2.heap.size, 1, none⟩) (Nat.le_refl _) (.slice (some ⟨g4, o4, none⟩) (j + 1) c4))
        have Hk := Lib.hid (Hok.out (by trivial))
        clear r0 r1 f0 f1 rl s0 s1 g0 g1 sl hown' hown2 hgrow hgb
        obtain ⟨s0, s1, g0, g1, sl⟩ := HS4.out.two
        go_wp2_with fail
        go_roundw
        case rel => exact ⟨j + 1, .slice (some ⟨g4, o4, none⟩) (j + 1) c4, by omega, by go_num, Hk, HS5, HR4, HQ5, B5⟩
        case measure => simp [intOf]; omega
    · obtain rfl : j = rest.length := by omega
      have hX := HX.out
      have hR := HR.out
      rw [List.take_length] at hX hR
      have HRo := Lib.hid (Own.of_row hR)
      have HX2 := Lib.hid hX
      obtain ⟨A9, c9, rfl⟩ := HRo.out.form
      have hsmr := Lib.hid (rulesOf_small HG.out hs)
      have hlr : (rulesOf rest).length = rest.length := List.length_map ..
      clear hX hR HX HR
      go_wp2_with fail
      refine (specRulesOk n A9 _ c9 _ (rulesOf rest) _ HRo.out hsmr.out).mono ?_
      rintro e w5 ⟨rfl, hb5⟩
      have b5 := hb.trans (hb5.mono hb.size)
      have HQ5 := Lib.hid (HQ.out.below hb5 rl)
      have HS5 := Lib.hid (HS.out.below hb5 sl)
      have HR5 := Lib.hid (HRo.out.below hb5)
      clear r0 r1 f0 f1 rl s0 s1 g0 g1 sl hb5 hb
      obtain ⟨r0, r1, f0, f1, rl⟩ := HQ5.out.two
      obtain ⟨s0, s1, g0, g1, sl⟩ := HS5.out.two
      cases hk : rulesOk n (rulesOf rest)
      · have Hno := Lib.hid (show (true && restOk rest && rulesOk n (rulesOf rest)) = false by rw [hk]; simp)
        clear s0 s1 g0 g1 hk
        go_wp2_with fail
        refine bodyPost_ret (v := .tuple #[.agg #[.int .i64 0, .slice none 0 0], .bool false]) (by simp [results, Tryd.results72, go_sem, *]) rfl (sysRet_no HG.out HN Hno.out ?_)
        refine Below.setCell (Below.setCell b5 ?_ _) ?_ _ <;> simp
      · have Hy := Lib.hid (sysOf_yes HX2.out hk)
        have Hsys := Lib.hid (show sysAns n (rulesOf rest) = s by
          unfold sysAns
          rw [hk, if_pos rfl]
          rcases HN with ⟨-, h1, -⟩ | ⟨h1, -⟩
          · exact sysT_text HG.out h1 HX2.out
          · cases h1)
        clear hk
        go_wp2_with fail
        refine (specFormatSystem n A9 _ c9 _ (rulesOf rest) _ HR5.out hsmr.out).mono ?_
        rw [Hsys.out]
        rintro e w6 ⟨rfl, hb6⟩
        have b6 := b5.trans (hb6.mono b5.size)
        have HQ6 := Lib.hid (HQ5.out.below hb6 rl)
        have HS6 := Lib.hid (HS5.out.below hb6 sl)
        have HR6 := Lib.hid (HR5.out.below hb6)
        clear r0 r1 f0 f1 rl s0 s1 g0 g1 sl hb6
        obtain ⟨r0, r1, f0, f1, rl⟩ := HQ6.out.two
        obtain ⟨s0, s1, g0, g1, sl⟩ := HS6.out.two
        go_wp2_with fail
        refine bodyPost_ret (v := .tuple #[.agg #[.int .i64 n, .slice A9 rest.length c9], .bool true]) (by simp [results, Tryd.results72, go_sem, *]) rfl ⟨p, rest, n, true, .slice A9 rest.length c9, HG.out, HN, by rw [Hy.out], ?_, ?_⟩
        · rw [Hy.out, hlr]
          exact ((HR6.out.far (by simp; omega) _).far (by simp; omega) _).mono (by omega)
        · refine Below.setCell (Below.setCell b6 ?_ _) ?_ _ <;> simp
end Go.Proofs.YtjndopogjiacpaaDoor

namespace Go.Proofs.YtjndopogjiacpaaDoor
open Go.RowKit Go.Joins

theorem Turn.then_below {S : List Nat} {W X Y : World} (h : Turn S W X) {B : Nat} (hb : Below B X Y) (hB : W.heap.size ≤ B) : Turn S W Y :=
  ⟨hb.os.trans h.os, hb.tape.trans h.tape, hb.output.trans h.output, Nat.le_trans h.size hb.size, fun k hk hn => (hb.block k (by omega)).trans (h.block k hk hn)⟩
theorem Turn.then_set {S : List Nat} {W X : World} (h : Turn S W X) {b : Nat} (o : Nat) (u : Value) (hb : W.heap.size ≤ b) : Turn S W (X.setCell ⟨b, o, none⟩ u) :=
  ⟨h.os, h.tape, h.output, by rw [World.size_setCell]; exact h.size, fun k hk hn => (Below.heap_setCell X ⟨b, o, none⟩ u k (by show k ≠ b; omega)).trans (h.block k hk hn)⟩
theorem Turn.grown {b : Nat} {W W' : World} (h : Turn [b] W W') : W.grownBy W' (some b) := ⟨h.os, h.tape, h.output, h.size, fun k hk hn => h.block k hk (fun e => hn (by rw [List.mem_singleton.1 e]))⟩
theorem grown_turn {b : Nat} {W W' : World} (h : W.grownBy W' (some b)) : Turn [b] W W' := turn_grown h (List.mem_singleton.2 rfl)
theorem Turn.cur {g : Nat} {W X : World} {b : Nat} {t : TypeId} {cs : Array Value} (h : Turn [g] W X) (hb : Blk W b t cs) (hn : b ≠ g) : Blk X b t cs := h.blk hb (fun e => hn (List.mem_singleton.1 e))
theorem Turn.row {g base size k : Nat} {e : TypeId} {v : Value} {xs : List Value} {W X : World} (h : Turn [g] W X) (hs : g < base) (hr : W.ownsRow base e size v k xs) : X.ownsRow base e size v k xs :=
  hr.kept h.grown (.inr (fun e => by have h1 := (hr.lt g e).1; omega))
theorem ds_alloc {sb g : Nat} {kk : Int} {A : Option Addr} {n c : Nat} {wr X : World} (h : X.cell? ⟨sb, 0, none⟩ = some (.int .i64 kk) ∧ Cur X g A n c ∧ Turn [g] wr X) (hsb : sb < wr.heap.size) (o : Obj) :
    (X.alloc o).cell? ⟨sb, 0, none⟩ = some (.int .i64 kk) ∧ Cur (X.alloc o) g A n c ∧ Turn [g] wr (X.alloc o) :=
  ⟨((bel1 X o).cell (by show sb < _; have := h.2.2.size; omega)).trans h.1, h.2.1.below (bel1 X o), h.2.2.then_below (bel1 X o) h.2.2.size⟩
theorem ds_below {sb g : Nat} {kk : Int} {A : Option Addr} {n c : Nat} {wr X Y : World} (h : X.cell? ⟨sb, 0, none⟩ = some (.int .i64 kk) ∧ Cur X g A n c ∧ Turn [g] wr X) (hsb : sb < wr.heap.size) (hb : Below X.heap.size X Y) :
    Y.cell? ⟨sb, 0, none⟩ = some (.int .i64 kk) ∧ Cur Y g A n c ∧ Turn [g] wr Y :=
  ⟨(hb.cell (by show sb < _; have := h.2.2.size; omega)).trans h.1, h.2.1.below hb, h.2.2.then_below hb h.2.2.size⟩
theorem ds_grown {sb g : Nat} {kk : Int} {A : Option Addr} {n c : Nat} {wr X Y : World} (h : X.cell? ⟨sb, 0, none⟩ = some (.int .i64 kk) ∧ Cur X g A n c ∧ Turn [g] wr X) (hsb : sb < wr.heap.size) (hne : sb ≠ g) (hC : Cur Y g A n c) (hG : X.grownBy Y (some g)) :
    Y.cell? ⟨sb, 0, none⟩ = some (.int .i64 kk) ∧ Cur Y g A n c ∧ Turn [g] wr Y :=
  ⟨(World.cell?_of_block (w := X) (a := ⟨sb, 0, none⟩) (hG.block sb (by have := h.2.2.size; omega) (fun e => hne (by injection e)))).trans h.1, hC, h.2.2.trans (grown_turn hG)⟩
theorem ds_set {sb g : Nat} {kk : Int} {A : Option Addr} {n c : Nat} {wr X : World} (h : X.cell? ⟨sb, 0, none⟩ = some (.int .i64 kk) ∧ Cur X g A n c ∧ Turn [g] wr X) (hsb : sb < wr.heap.size) (hg : g < wr.heap.size) {b : Nat} (o : Nat) (u : Value) (hb : wr.heap.size ≤ b) :
    (X.setCell ⟨b, o, none⟩ u).cell? ⟨sb, 0, none⟩ = some (.int .i64 kk) ∧ Cur (X.setCell ⟨b, o, none⟩ u) g A n c ∧ Turn [g] wr (X.setCell ⟨b, o, none⟩ u) :=
  ⟨(World.cell?_of_block (w := X) (a := ⟨sb, 0, none⟩) (Below.heap_setCell X ⟨b, o, none⟩ u sb (by show sb ≠ b; omega))).trans h.1, h.2.1.keep (fun j hj => Below.heap_setCell _ _ _ j (by show j ≠ b; omega)), h.2.2.then_set o u hb⟩
theorem new_grown {g : Nat} {X Y : World} {t : TypeId} {cs : Array Value} (h : (X.alloc (.cells cs t)).grownBy Y (some g)) (hg : g < X.heap.size) : Blk Y X.heap.size t cs :=
  (grown_turn h).cur (Blk.new1 X cs t) (by omega)
theorem new_grown_drew {g : Nat} {X Y : World} {t : TypeId} {cs : Array Value} (h : (X.drew.alloc (.cells cs t)).grownBy Y (some g)) (hg : g < X.heap.size) : Blk Y X.heap.size t cs := new_grown (X := X.drew) h hg
theorem new_below {X Y : World} {t : TypeId} {cs : Array Value} (h : Below (X.alloc (.cells cs t)).heap.size (X.alloc (.cells cs t)) Y) : Blk Y X.heap.size t cs := (Blk.new1 X cs t).below h (by simp)

set_option maxHeartbeats 400000 in
theorem l01Once_any (g : Nat) (A : Option Addr) (n c N : Nat) (w : World) (h : Cur w g A n c) (h0 : 0 < N) (h1 : N ≤ 256) :
    Calls Tryd.prog 70 #[.pointer (some ⟨g, 0, none⟩), .int .i64 N] w fun e w' => ∃ b, e = .returned (.bool b) ∧ Cur w' g A n c ∧ w.grownBy w' (some g) := by
  go_enter Tryd.func70, Tryd.ntmps70
  go_wp2_with fail
  refine (l01Below_small g A n c N _ h h0 h1).mono ?_
  rintro e w1 ⟨r, rfl, -, hC, hG⟩
  have HC := Lib.hid hC
  have HG := Lib.hid hG
  clear hC hG
  go_wp2_with fail
  go_ret
  exact ⟨_, rfl, HC.out, HG.out⟩

theorem less_pos {u v : ByteArray} (h : lessS u v = true) : 0 < v.size := by
  rcases Nat.eq_zero_or_pos v.size with h0 | h0
  · have h1 := lessS_size h
    have e : u = v := by rw [ByteArray.size_eq_zero_iff.1 h0, ByteArray.size_eq_zero_iff.1 (by omega : u.size = 0)]
    rw [e, lessS_irrefl] at h; cases h
  · exact h0
theorem orient_good {k : Int} {u v : ByteArray} (h : canOrient k (u, v) = true) : ruleOk k (orientOf k (u, v)) = true ∧ ordered (orientOf k (u, v)) = true := by
  have h' := h
  simp only [canOrient, Bool.and_eq_true, Bool.not_eq_true', decide_eq_false_iff_not] at h'
  obtain ⟨h1, h2⟩ := h'
  rw [orientOf, if_pos h, oriented]
  cases hl : lessS u v
  · have h3 : lessS v u = true := by
      cases h4 : lessS v u
      · exact absurd (lessS_total u v hl h4) h2
      · rfl
    rw [if_neg (by simp)]
    refine ⟨?_, h3⟩
    rw [ruleOk, h1, decide_eq_true (less_pos h3)]; rfl
  · rw [if_pos rfl]
    refine ⟨?_, hl⟩
    rw [sidesOk_eq, Bool.and_comm, ← sidesOk_eq] at h1
    rw [ruleOk, h1, decide_eq_true (less_pos hl)]; rfl

def words11 : List ByteArray := [⟨#[49, 32, 97, 97, 97, 62, 46]⟩, ⟨#[50, 32, 97, 97, 62, 46, 32, 98, 98, 62, 46, 32, 98, 97, 62, 97, 98]⟩, ⟨#[50, 32, 97, 97, 62, 46, 32, 98, 98, 62, 46, 32, 98, 97, 98, 62, 97, 98, 97]⟩, ⟨#[50, 32, 98, 97, 62, 97, 98]⟩, ⟨#[50, 32, 97, 98, 62, 46]⟩, ⟨#[50, 32, 97, 97, 62, 97, 32, 98, 98, 62, 98]⟩, ⟨#[50, 32, 97, 97, 62, 46, 32, 98, 98, 98, 62, 46, 32, 97, 98, 98, 62, 98, 97, 32, 97, 98, 97, 62, 98, 98, 32, 98, 97, 98, 62, 97, 32, 98, 98, 97, 62, 97, 98]⟩, ⟨#[49, 32, 97, 97, 97, 97, 62, 97, 97]⟩, ⟨#[50, 32, 97, 97, 62, 98]⟩, ⟨#[50, 32, 98, 97, 62, 97, 98, 32, 98, 98, 62, 98]⟩, ⟨#[51, 32, 98, 97, 62, 97, 98, 32, 99, 97, 62, 97, 99, 32, 99, 98, 62, 98, 99]⟩]
theorem words11_size (x : ByteArray) (h : x ∈ words11) : x.size ≤ 64 := by
  simp only [words11, List.mem_cons, List.not_mem_nil, or_false] at h
  rcases h with rfl | rfl | rfl | rfl | rfl | rfl | rfl | rfl | rfl | rfl | rfl <;> decide
theorem sysOf_ok (n : Int) (b : Bool) (rest : List ByteArray) (h : (sysOf n b rest).2.2 = true) : smallR (sysOf n b rest).2.1 := by
  unfold sysOf at h ⊢
  split at h
  · rename_i hk
    rw [if_pos hk]
    simp only [Bool.and_eq_true] at hk
    intro r hr
    have := rulesOk_mem hk.2 hr
    omega
  · cases h

def SysDraw (W : World) (g : Nat) (e : Ending) (w' : World) : Prop :=
  ∃ k l v, e = .returned (.agg #[.int .i64 k, v]) ∧ Own W.heap.size w' v 2 l.length (rulesC l) ∧ systemOk k l = true ∧ W.grownBy w' (some g)

set_option maxRecDepth 100000 in
set_option maxHeartbeats 16000000 in
theorem l03Draw_any (g : Nat) (A : Option Addr) (n c : Nat) (w : World) (h : Cur w g A n c) :
    Calls Tryd.prog 48 #[.pointer (some ⟨g, 0, none⟩)] w (SysDraw w g) := by
  obtain ⟨i0, hi, hz0, hz1, hz2⟩ := infoR_parts infoRule
  have hgl := h.lt
  have H1 := Lib.hid (h.below (bel2 w (.cells #[.int .i64 0, .slice none 0 0] 25) (.cells #[.int .i64 2, .slice none 0 0] 25)))
  clear h
  go_enter Tryd.func48, Tryd.ntmps48
  go_wp2_with fail
  refine (l01Once_any g A n c 3 _ H1.out (by omega) (by omega)).mono ?_
  rintro e w1 ⟨b1, rfl, hC1, hG1⟩
  have HT1 := Lib.hid ((turn_below (S := [g]) (bel2 w (.cells #[.int .i64 0, .slice none 0 0] 25) (.cells #[.int .i64 2, .slice none 0 0] 25))).trans (grown_turn hG1))
  have HC1 := Lib.hid hC1
  have HR1 := Lib.hid ((grown_turn hG1).cur ((Blk.new1 w #[.int .i64 0, .slice none 0 0] 25).alloc (.cells #[.int .i64 2, .slice none 0 0] 25)) (by omega))
  have HS1 := Lib.hid ((grown_turn hG1).cur (Blk.new2 w (.cells #[.int .i64 0, .slice none 0 0] 25) #[.int .i64 2, .slice none 0 0] 25) (by omega))
  clear hC1 hG1 H1
  go_upto_if 11 with fail
  go_cut [] from 12 (fun wx => ∃ kk : Nat, 1 ≤ kk ∧ kk ≤ 3 ∧ Hid (Blk wx (w.heap.size + 1) 25 #[.int .i64 kk, .slice none 0 0]) ∧ Hid (Blk wx w.heap.size 25 #[.int .i64 0, .slice none 0 0]) ∧ Hid (Cur wx g A n c) ∧ Hid (Turn [g] w wx))
  case first =>
    cases b1
    · go_wp2_with fail
      go_meet
      exact ⟨2, by omega, by omega, HS1, HR1, HC1, HT1⟩
    · obtain ⟨s0, s1, g0, g1, sl⟩ := HS1.out.two
      go_wp2_with fail
      refine (l01Below_small g A n c 3 _ HC1.out (by omega) (by omega)).mono ?_
      rintro e w2 ⟨r, rfl, hr, hC2, hG2⟩
      have HS2 := Lib.hid ((grown_turn hG2).cur HS1.out (by omega))
      have HR2 := Lib.hid ((grown_turn hG2).cur HR1.out (by omega))
      have HC2 := Lib.hid hC2
      have HT2 := Lib.hid (HT1.out.trans (grown_turn hG2))
      clear s0 s1 g0 g1 sl hC2 hG2
      obtain ⟨s0, s1, g0, g1, sl⟩ := HS2.out.two
      go_wp2_with fail
      go_meet
      refine ⟨1 + r, by omega, by omega, ?_, Lib.hid (HR2.out.far (p := ⟨w.heap.size + 1, 0, none⟩) (by simp) _), ?_, Lib.hid (HT2.out.then_set 0 _ (by omega))⟩
      · show Blk _ _ _ _
        rw [show ((1 + r : Nat) : Int) = 1 + (r : Int) by omega]
        exact HS2.out.set_ 0 (.int .i64 (1 + (r : Int)))
      · show Cur _ _ _ _ _
        exact HC2.out.keep (fun j hj => Below.heap_setCell _ _ _ j (by show j ≠ w.heap.size + 1; omega))
  case rest =>
    obtain ⟨kk, hk1, hk3, HS, HR, HC, HT⟩ := hcut
    clear HS1 HR1 HC1 HT1
    go_wp2_with fail
    refine (l01Once_any g A n c 2 _ HC.out (by omega) (by omega)).mono ?_
    rintro e w3 ⟨b2, rfl, hC3, hG3⟩
    have HS3 := Lib.hid ((grown_turn hG3).cur HS.out (by omega))
    have HR3 := Lib.hid ((grown_turn hG3).cur HR.out (by omega))
    have HC3 := Lib.hid hC3
    have HT3 := Lib.hid (HT.out.trans (grown_turn hG3))
    clear HS HR HC HT hC3 hG3
    go_upto_if 17 with fail
    go_cut [] from 18 (fun wx => Hid (Blk wx (w.heap.size + 1) 25 #[.int .i64 kk, .slice none 0 0]) ∧ Hid (Blk wx w.heap.size 25 #[.int .i64 0, .slice none 0 0]) ∧ Hid (Cur wx g A n c) ∧ Hid (Turn [g] w wx))
    case first =>
      cases b2
      · go_wp2_with fail
        go_meet
        exact ⟨HS3, HR3, HC3, HT3⟩
      · go_wp2_with fail
        have HC4 := Lib.hid (HC3.out.below (bel1 w3 (.cells (strs words11).toArray 9)))
        have hgl3 := HC3.out.lt
        refine (l01Str_any g A n c w3.heap.size 11 words11 (w3.alloc (.cells (strs words11).toArray 9)) HC4.out (by omega) (heap_alloc_new w3 _) rfl (by omega) (by omega)).mono ?_
        rintro e w5 ⟨x, rfl, hx, hC5, hG5⟩
        have hx64 := words11_size x hx
        have hTa := (turn_below (S := [g]) (bel1 w3 (.cells (strs words11).toArray 9))).trans (grown_turn hG5)
        have HS5 := Lib.hid (hTa.cur HS3.out (by omega))
        have HR5 := Lib.hid (hTa.cur HR3.out (by omega))
        have HC5 := Lib.hid hC5
        have HT5 := Lib.hid (HT3.out.trans hTa)
        clear hC5 hG5 hTa hx HC4 HS3 HR3 HC3 HT3
        go_wp2_with fail
        refine (specParseSystem x _ (by omega)).mono ?_
        rintro e w6 ⟨p, rest, nn, bb, v, -, -, rfl, hO6, hb6⟩
        have hsm := sysOf_ok nn bb rest
        generalize sysOf nn bb rest = so at *
        obtain ⟨nk, ll, ok⟩ := so
        dsimp only at *
        obtain ⟨A6, c6, rfl⟩ := hO6.form
        have hw5 := HT5.out.size
        have HS6 := Lib.hid (HS5.out.below hb6 HS5.out.lt)
        have HR6 := Lib.hid (HR5.out.below hb6 HR5.out.lt)
        have HC6 := Lib.hid (HC5.out.below hb6)
        have HT6 := Lib.hid (HT5.out.then_below hb6 hw5)
        have HO6 := Lib.hid hO6
        have hw5l := HR5.out.lt
        clear hb6 hO6 HS5 HR5 HC5 HT5
        have Hsm := Lib.hid hsm
        clear hsm
        cases ok
        · go_wp2_with fail
          go_meet
          exact ⟨HS6.out.alloc _, HR6.out.alloc _, HC6.out.below (bel1 w6 _), HT6.out.then_below (bel1 w6 _) HT6.out.size⟩
        · go_wp2_with fail
          refine (specSystemOk nk A6 _ c6 _ ll _ (HO6.out.below (bel1 w6 _)) (Hsm.out (by trivial))).mono ?_
          rintro e w8 ⟨rfl, hb8⟩
          have b8 := (bel1 w6 (.cells #[.int .i64 nk, .slice A6 ll.length c6] 25)).trans (hb8.mono (by simp))
          have HX8 := Lib.hid ((Blk.new1 w6 #[.int .i64 nk, .slice A6 ll.length c6] 25).below hb8 (by simp))
          have HS8 := Lib.hid (HS6.out.below b8 HS6.out.lt)
          have HR8 := Lib.hid (HR6.out.below b8 HR6.out.lt)
          have HC8 := Lib.hid (HC6.out.below b8)
          have HT8 := Lib.hid (HT6.out.then_below b8 HT6.out.size)
          have HO8 := Lib.hid (HO6.out.below b8)
          clear hb8 b8
          cases hk : systemOk nk ll
          · go_wp2_with fail
            go_meet
            exact ⟨HS8, HR8, HC8, HT8⟩
          · have Hk := Lib.hid hk
            clear hk
            obtain ⟨x0, x1, -, -, xl⟩ := HX8.out.two
            obtain ⟨r0, r1, f0, f1, rl⟩ := HR8.out.two
            go_wp2_with fail
            refine bodyPost_ret (v := .agg #[.int .i64 nk, .slice A6 ll.length c6]) (by simp [results, Tryd.results48, go_sem, *]) rfl ⟨nk, ll, _, rfl, ?_, Hk.out, ?_⟩
            · exact ((HO8.out.far (by simp; omega) _).far (by simp; omega) _).mono hw5
            · exact ((HT8.out.then_set 0 _ (Nat.le_refl _)).then_set 1 _ (Nat.le_refl _)).grown
    case rest =>
      obtain ⟨HS, HR, HC, HT⟩ := hcut
      clear HS3 HR3 HC3 HT3
      go_wp2_with fail
      refine (l01Below_small g A n c 4 _ HC.out (by omega) (by omega)).mono ?_
      rintro e w4 ⟨r, rfl, hr, hC4, hG4⟩
      have HS4 := Lib.hid ((grown_turn hG4).cur HS.out (by omega))
      have HR4 := Lib.hid ((grown_turn hG4).cur HR.out (by omega))
      have HC4 := Lib.hid hC4
      have HT4 := Lib.hid (HT.out.trans (grown_turn hG4))
      clear HS HR HC HT hC4 hG4
      go_wp2_with fail
      go_loopw [6, 7, 8] (fun i _ _ wr => ∃ (q : Nat) (l : List R) (v : Value), i = .int .i64 q ∧ q + l.length ≤ 3 ∧ Hid (l.all (ruleOk kk) = true ∧ l.all ordered = true) ∧ Hid (Blk wr (w.heap.size + 1) 25 #[.int .i64 kk, v]) ∧
        Hid (wr.ownsRow (w.heap.size + 2) 83 2 v l.length (rulesC l)) ∧ Hid (Blk wr w.heap.size 25 #[.int .i64 0, .slice none 0 0]) ∧ Hid (Cur wr g A n c) ∧ Hid (Turn [g] w wr)) (fun i _ _ _ => (intOf i).toNat)
      case atStart => exact ⟨r, [], .slice none 0 0, rfl, by simp; omega, ⟨rfl, rfl⟩, HS4, World.ownsRow_nil _ _ _ _, HR4, HC4, HT4⟩
      case round =>
        obtain ⟨q, l, v, rfl, hql, HA, HS, HW, HR, HC, HT⟩ := hrel
        have hTs := HT.out.size
        by_cases hq : 0 < q
        · obtain ⟨s0, s1, g0, g1, sl⟩ := HS.out.two
          have hgw := HC.out.lt
          go_wp2_with fail
          have hsb : w.heap.size + 1 < wr.heap.size := sl
          have K0 : wr.drew.cell? ⟨w.heap.size + 1, 0, none⟩ = some (.int .i64 kk) ∧ Cur wr.drew g A n c ∧ Turn [g] wr wr.drew := ⟨s0, HC.out.below ((Below.refl _ wr).drew), turn_below ((Below.refl _ wr).drew)⟩
          go_cut [7, 8] from 33 to 58 (fun s7 s8 wx => ∃ (d : Nat) (u v : ByteArray) (cc : Bool), s7 = .pointer (some ⟨d, 0, none⟩) ∧ s8 = .bool cc ∧ wx.cell? ⟨d, 0, none⟩ = some (.string u) ∧ wx.cell? ⟨d, 1, none⟩ = some (.string v) ∧ Hid (cc = true → ruleOk kk (u, v) = true ∧ ordered (u, v) = true) ∧ Hid (Cur wx g A n c) ∧ Hid (Turn [g] wr wx))
          case first =>
            go_region_held3 (fun w' => w'.cell? ⟨w.heap.size + 1, 0, none⟩ = some (.int .i64 kk) ∧ Cur w' g A n c ∧ Turn [g] wr w')
              (first | exact K0 | exact K5 | exact K6 | exact K7 | exact ds_alloc K0 hsb _ | exact ds_alloc K5 hsb _ | exact ds_alloc K6 hsb _ | exact ds_alloc K7 hsb _ | exact ds_set K7 hsb hgw _ _ (Nat.le_refl _) | exact ds_set (ds_set K7 hsb hgw _ _ (Nat.le_refl _)) hsb hgw _ _ (Nat.le_refl _) | exact ds_set K7 hsb hgw _ _ K5.2.2.size | exact ds_set (ds_set K7 hsb hgw _ _ K5.2.2.size) hsb hgw _ _ K5.2.2.size | exact ds_set K7 hsb hgw _ _ K6.2.2.size | exact ds_set (ds_set K7 hsb hgw _ _ K6.2.2.size) hsb hgw _ _ K6.2.2.size)
              ((first
                | (go_at_call_of 50 (Value.int .i64 4); (first | refine (l02Draw_any g A n c kk 4 _ K0.2.1 (by omega) (by omega) (by omega)).mono ?_ | refine (l02Draw_any g A n c kk 4 _ (ds_alloc K0 hsb _).2.1 (by omega) (by omega) (by omega)).mono ?_); rintro e w5 ⟨p, rfl, -, hp2, hC5, hG5⟩; (first | have K5 := ds_grown K0 hsb (by omega) hC5 hG5 | have K5 := ds_grown (ds_alloc K0 hsb _) hsb (by omega) hC5 hG5); (first | have D5 := new_grown_drew hG5 hgw | skip))
                | (go_at_call_of 50 (Value.int .i64 3); (first | refine (l02Draw_any g A n c kk 3 _ K5.2.1 (by omega) (by omega) (by omega)).mono ?_ | refine (l02Draw_any g A n c kk 3 _ (ds_alloc K5 hsb _).2.1 (by omega) (by omega) (by omega)).mono ?_); rintro e w6 ⟨q9, rfl, -, hq2, hC6, hG6⟩; (first | have K6 := ds_grown K5 hsb (by omega) hC6 hG6 | have K6 := ds_grown (ds_alloc K5 hsb _) hsb (by omega) hC6 hG6); (first | have D6 := (grown_turn hG6).cur D5 (by omega) | have D6 := new_grown hG6 K5.2.1.lt | skip))
                | (go_at_call 75; refine (specOrientRule kk p q9 _ (by omega) (by omega)).mono ?_; have Hgd := Lib.hid (fun h => orient_good (k := kk) (u := p) (v := q9) h); generalize orientOf (kk : Int) (p, q9) = oo at *; generalize canOrient (kk : Int) (p, q9) = cc at *; obtain ⟨oa, ob⟩ := oo; rintro e w7 ⟨rfl, hb7⟩; (first | have K7 := ds_below K6 hsb hb7 | have K7 := ds_below (ds_alloc K6 hsb _) hsb hb7); (first | (have D7 := D6.below hb7 D6.lt; obtain ⟨x0, x1, e0, e1, xl⟩ := id D7.two) | (have D7 := new_below hb7; obtain ⟨x0, x1, e0, e1, xl⟩ := id D7.two) | skip))))
            all_goals go_wp2_with fail
            all_goals go_meet
            all_goals first
              | exact ⟨_, oa, ob, cc, rfl, rfl, (Blk.new1 w7 _ _).cell 0, (Blk.new1 w7 _ _).cell 1, Hgd, (ds_alloc K7 hsb _).2.1, (ds_alloc K7 hsb _).2.2⟩
              | exact ⟨_, oa, ob, cc, rfl, rfl, ((D7.set_ 0 (.string oa)).set_ 1 (.string ob)).cell 0, ((D7.set_ 0 (.string oa)).set_ 1 (.string ob)).cell 1, Hgd, (ds_set (ds_set K7 hsb hgw _ _ K6.2.2.size) hsb hgw _ _ K6.2.2.size).2.1, (ds_set (ds_set K7 hsb hgw _ _ K6.2.2.size) hsb hgw _ _ K6.2.2.size).2.2⟩
              | exact ⟨_, oa, ob, cc, rfl, rfl, ((D7.set_ 0 (.string oa)).set_ 1 (.string ob)).cell 0, ((D7.set_ 0 (.string oa)).set_ 1 (.string ob)).cell 1, Hgd, (ds_set (ds_set K7 hsb hgw _ _ K5.2.2.size) hsb hgw _ _ K5.2.2.size).2.1, (ds_set (ds_set K7 hsb hgw _ _ K5.2.2.size) hsb hgw _ _ K5.2.2.size).2.2⟩
              | exact ⟨_, oa, ob, cc, rfl, rfl, ((D7.set_ 0 (.string oa)).set_ 1 (.string ob)).cell 0, ((D7.set_ 0 (.string oa)).set_ 1 (.string ob)).cell 1, Hgd, (ds_set (ds_set K7 hsb hgw _ _ (Nat.le_refl _)) hsb hgw _ _ (Nat.le_refl _)).2.1, (ds_set (ds_set K7 hsb hgw _ _ (Nat.le_refl _)) hsb hgw _ _ (Nat.le_refl _)).2.2⟩
          case rest =>
            obtain ⟨d, u, v9, cc, rfl, rfl, d0, d1, HG, HC5, HT5⟩ := hcut
            have HS5 := Lib.hid (HT5.out.cur HS.out (by omega))
            have HR5 := Lib.hid (HT5.out.cur HR.out (by omega))
            have HW5 := Lib.hid (HT5.out.row (by omega) HW.out)
            have HT6 := Lib.hid (HT.out.trans HT5.out)
            have hwc := HT5.out.size
            clear s0 s1 g0 g1 sl K0 HS HR HW HC HT
            cases cc
            · go_wp2_with fail
              go_roundw
              case rel => exact ⟨q - 1, l, v, by go_num, by omega, HA, HS5, HW5, HR5, HC5, HT6⟩
              case measure => simp [intOf]; omega
            · have Hd := Lib.hid (HG.out (by trivial))
              clear HG
              obtain ⟨s0, s1, g0, g1, sl⟩ := HS5.out.two
              go_wp2_with (at_builtin; refine wpList_append_own _ rfl _ _ 23 rfl (w.heap.size + 2) 83 i0 (.agg #[.string ⟨#[]⟩, .string ⟨#[]⟩]) 2 32 Tryd.underlying23 hi hz0 hz1 hz2 rfl (by decide) _ _ _ rfl (HW5.out.alloc _) ⟨wc.heap.size, 0, none⟩ 1 1 [.string u, .string v9] rfl rfl ?c1 ?c2 ?c3 ?c4 ?c5 ?_)
              case c1 =>
                intro j z hj
                match j, hj with
                | 0, hj => simp at hj; subst hj; simp [Addr.add]
                | 1, hj => simp at hj; subst hj; simp [Addr.add]
              case c2 => intro z hz; simp at hz; rcases hz with rfl | rfl <;> rfl
              case c3 => unfold maxLen; omega
              case c4 => omega
              case c5 => simp; omega
              intro v' w6 hown' hgrow _
              have hown2 : w6.ownsRow (w.heap.size + 2) 83 2 v' (l ++ [(u, v9)]).length (rulesC (l ++ [(u, v9)])) := by rw [rulesC_append, List.length_append]; exact hown'
              obtain ⟨g4, o4, c4, hv4⟩ := (Own.of_row hown2).formR (by simp)
              subst hv4
              have hB6 : Below (w.heap.size + 2) wc w6 := grown_one HW5.out hgrow (Below.refl _ _) (Nat.le_refl _) (by omega)
              have HS6 := Lib.hid (HS5.out.below hB6 (by omega))
              have HR6 := Lib.hid (HR5.out.below hB6 (by omega))
              have HC6 := Lib.hid (HC5.out.keep (fun j hj => hB6.block j (by omega)))
              have HT7 := Lib.hid (HT6.out.then_below hB6 (by omega))
              have HO := Lib.hid hown2
              clear s0 s1 g0 g1 sl d0 d1 hown' hown2 hgrow
              obtain ⟨s0, s1, g0, g1, sl⟩ := HS6.out.two
              have HS7 := Lib.hid (HS6.out.set_ 1 (.slice (some ⟨g4, o4, none⟩) (l ++ [(u, v9)]).length c4))
              have HR7 := Lib.hid (HR6.out.far (p := ⟨w.heap.size + 1, 1, none⟩) (by simp) (.slice (some ⟨g4, o4, none⟩) (l ++ [(u, v9)]).length c4))
              have HC7 := Lib.hid (HC6.out.keep (fun j hj => Below.heap_setCell w6 ⟨w.heap.size + 1, 1, none⟩ (.slice (some ⟨g4, o4, none⟩) (l ++ [(u, v9)]).length c4) j (by show j ≠ w.heap.size + 1; omega)))
              have HT8 := Lib.hid (HT7.out.then_set 1 (.slice (some ⟨g4, o4, none⟩) (l ++ [(u, v9)]).length c4) (by omega : w.heap.size ≤ w.heap.size + 1))
              have HO7 := Lib.hid (ownsRow_setCell_below HO.out (a := ⟨w.heap.size + 1, 1, none⟩) (by show w.heap.size + 1 < _; omega) (.slice (some ⟨g4, o4, none⟩) (l ++ [(u, v9)]).length c4))
              have HA7 : Hid ((l ++ [(u, v9)]).all (ruleOk kk) = true ∧ (l ++ [(u, v9)]).all ordered = true) := by
                refine ⟨?_, ?_⟩
                · rw [List.all_append, HA.out.1]; simp [Hd.out.1]
                · rw [List.all_append, HA.out.2]; simp [Hd.out.2]
              have Hl1 := Lib.hid (show (l ++ [(u, v9)]).length = l.length + 1 from List.length_append)
              generalize l ++ [(u, v9)] = l2 at *
              go_wp2_with fail
              go_roundw
              case rel => exact ⟨q - 1, l2, _, by go_num, by have := Hl1.out; omega, HA7, HS7, HO7, HR7, HC7, HT8⟩
              case measure => simp [intOf]; omega
        · obtain rfl : q = 0 := by omega
          have HO := Lib.hid (Own.of_row HW.out)
          obtain ⟨A9, c9, rfl⟩ := HO.out.form
          obtain ⟨s0, s1, -, -, sl⟩ := HS.out.two
          obtain ⟨r0, r1, f0, f1, rl⟩ := HR.out.two
          have Hsys : Hid (systemOk kk l = true) := by
            show _ = _
            rw [systemOk, rulesOk, inK, HA.out.1, HA.out.2, decide_eq_true (by omega : (1 : Int) ≤ kk), decide_eq_true (by omega : (kk : Int) ≤ 4), decide_eq_true (by omega : l.length ≤ 12)]; rfl
          clear HW
          go_wp2_with fail
          refine bodyPost_ret (v := .agg #[.int .i64 kk, .slice A9 l.length c9]) (by simp [results, Tryd.results48, go_sem, *]) rfl ⟨kk, l, _, rfl, ?_, Hsys.out, ?_⟩
          · exact ((HO.out.far (by simp) _).far (by simp) _).mono (by omega)
          · exact ((HT.out.then_set 0 _ (Nat.le_refl _)).then_set 1 _ (Nat.le_refl _)).grown
end Go.Proofs.YtjndopogjiacpaaDoor

namespace Go.Proofs.YtjndopogjiacpaaDoor
open Go.RowKit Go.Joins

def SysMade (W : World) (e : Ending) (w' : World) : Prop :=
  ∃ k l v, e = .returned (.agg #[.int .i64 k, v]) ∧ Own W.heap.size w' v 2 l.length (rulesC l) ∧ systemOk k l = true ∧ Below W.heap.size W w'
set_option maxHeartbeats 800000 in
theorem MakeSystem_any (A : Option Addr) (n c m : Nat) (w : World) (h : InB w A n c) (hn : n ≤ 1048576) (hm : m ≤ 1000000) :
    Calls Tryd.prog 14 #[.slice A n c, .int .i64 m] w (SysMade w) := by
  have H := Lib.hid (h.keep (bel1 w (.cells #[.int .i64 0, .slice none 0 0] 25)))
  clear h
  go_enter Tryd.func14, Tryd.ntmps14
  go_wp2_with fail
  refine (l31New_any A n c m _ H.out hn hm).mono ?_
  rintro e w1 ⟨g, rfl, hg, hC, hb⟩
  have b1 := (bel1 w (.cells #[.int .i64 0, .slice none 0 0] 25)).trans (hb.mono (by simp))
  have HR1 := Lib.hid ((Blk.new1 w #[.int .i64 0, .slice none 0 0] 25).below hb (by simp))
  have hg1 : w.heap.size + 1 ≤ g := by simpa using hg
  have HC := Lib.hid hC
  have hgl := hC.lt
  clear hb hC hg
  go_wp2_with fail
  refine (l03Draw_any g A n c _ HC.out).mono ?_
  rintro e w2 ⟨k, l, v, rfl, hO, hsys, hG⟩
  obtain ⟨A9, c9, rfl⟩ := hO.form
  have HR2 := Lib.hid ((grown_turn hG).cur HR1.out (by omega))
  have HO := Lib.hid hO
  have Hs := Lib.hid hsys
  have b2 := below_grown b1 hG (by omega) (by omega)
  clear hO hG hsys
  obtain ⟨r0, r1, f0, f1, rl⟩ := HR2.out.two
  go_wp2_with fail
  refine bodyPost_ret (v := .agg #[.int .i64 k, .slice A9 l.length c9]) (by simp [results, Tryd.results14, go_sem, *]) rfl ⟨k, l, _, rfl, ?_, Hs.out, (b2.setCell (by simp) _).setCell (by simp) _⟩
  exact ((HO.out.far (by simp; omega) _).far (by simp; omega) _).mono (by omega)
end Go.Proofs.YtjndopogjiacpaaDoor

