/- The ends of reduced words: end.text, endOf, endAfter. -/
import Derived.Test.YtjecadpofkblnaaDoorLangEnds
import Derived.Test.YtjecadpofkblnaaDoorLengthened
import Derived.Test.YtjecadpofkblnaaDoorHasRule
namespace Go.Proofs.YtjecadpofkblnaaDoor
open Go.RowKit

abbrev endV (e : E) : Value := .agg #[.int .i64 e.1, .int .i64 e.2]
theorem endEqParts (a b c d : Int) : (a == c && b == d) = decide (a = c ∧ b = d) := by
  by_cases h1 : a = c <;> by_cases h2 : b = d <;> simp [h1, h2]
theorem run_eqlEnd (a b c d : Int) (w : World) : (binOp .eql 97 (.agg #[.int .i64 a, .int .i64 b]) (.agg #[.int .i64 c, .int .i64 d])).run Tryd.prog w = .ok (.bool (decide (a = c ∧ b = d))) w := by
  rw [run_eql_struct, run_equalIn_agg w _ _ _ _ (by kernel_rfl) (by kernel_rfl), ← endEqParts]
  simp [go_sem, Program.fieldsOf, Tryd.underlying97, Tryd.underlying3]
  by_cases h1 : a = c <;> by_cases h2 : b = d <;> simp [h1, h2]
theorem eqE (e f : E) : decide ((e.1 : Int) = (f.1 : Int) ∧ (e.2 : Int) = (f.2 : Int)) = decide (e = f) := by
  rcases e with ⟨a, b⟩
  rcases f with ⟨c, d⟩
  simp only [Prod.mk.injEq]
  by_cases h1 : a = c <;> by_cases h2 : b = d <;> simp [h1, h2] <;> omega

set_option maxRecDepth 100000 in
set_option maxHeartbeats 800000 in
theorem textE_any (k : Int) (A : Option Addr) (n c B : Nat) (l : List R) (e : E) (w : World) (h : Own B w (.slice A n c) 2 n (rulesC l)) (he : GoodE l e) (hl : ∀ r ∈ l, r.1.size ≤ 8) :
    Calls Tryd.prog 106 #[endV e, .agg #[.int .i64 k, .slice A n c]] w fun x w' => x = .returned (.string (textE l e)) ∧ Below w.heap.size w w' := by
  have hmax := h.bound
  unfold maxLen at hmax
  obtain ⟨i, m⟩ := e
  have heq := fun w' => run_eqlEnd i m 0 0 w'
  rcases he with h0 | ⟨h1, r, hr, h2⟩
  · injection h0 with h1 h2
    subst h1
    subst h2
    have hd : decide (((0 : Nat) : Int) = 0 ∧ ((0 : Nat) : Int) = 0) = true := by decide
    rw [hd] at heq
    rw [textE_zero]
    clear hd
    go_enter Tryd.func106, Tryd.ntmps106
    go_wp2_with fail
    go_ret
    exact ⟨rfl, bel2 _ _ _⟩
  · dsimp only at h1 hr h2
    have hin : i < n := by have := h.rlen; have := (List.getElem?_eq_some_iff.1 hr).1; omega
    have hd : decide ((i : Int) = 0 ∧ (m : Int) = 0) = false := decide_eq_false (fun h => by omega)
    rw [hd] at heq
    have hrs := hl r (List.mem_of_getElem? hr)
    rw [textE_some h1 hr]
    clear hd
    obtain ⟨g, off, c0, hv⟩ := h.formR (by omega)
    obtain ⟨rfl, rfl⟩ : A = some ⟨g, off, none⟩ ∧ c = c0 := by injection hv with a _ b; exact ⟨a, b⟩
    clear hv
    have h2' := h.below (bel2 w (.cells #[.int .i64 i, .int .i64 m] 97) (.cells #[.int .i64 k, .slice (some ⟨g, off, none⟩) n c] 25))
    obtain ⟨-, hgl, ⟨a, b⟩, hr3, y0, y1, -, -⟩ := h2'.rule hin
    obtain rfl : r = (a, b) := by rw [hr] at hr3; exact Option.some.inj hr3
    clear hr3 h2' h hr hl
    go_enter Tryd.func106, Tryd.ntmps106
    go_wp2_with fail
    go_quiet (fail)
    go_wp2_with fail
    go_ret
    exact ⟨rfl, below_drewN (bel2 _ _ _) _⟩

theorem hasSuffix2_any (s p : ByteArray) (w : World) (hs : s.size ≤ 1048576) :
    Calls Tryd.prog 115 #[.string s, .string p] w fun e w' => e = .returned (.bool (sufS s p)) ∧ w = w' := by
  by_cases h : p.size ≤ s.size
  · have He := Lib.hid (show ((s.extract (s.size - p.size) s.size).toList == p.toList) = sufS s p by unfold sufS; rw [decide_eq_true h, Bool.true_and])
    go_enter Tryd.func115, Tryd.ntmps115
    go_wp2_with fail
    all_goals (go_ret; exact ⟨ret_bool He.out, rfl⟩)
  · have He := Lib.hid (show false = sufS s p by unfold sufS; rw [decide_eq_false h, Bool.false_and])
    go_enter Tryd.func115, Tryd.ntmps115
    go_wp2_with fail
    go_ret
    exact ⟨ret_bool He.out, rfl⟩
theorem hasSuffix_any (s p : ByteArray) (w : World) (hs : s.size ≤ 1048576) :
    Calls Tryd.prog 107 #[.string s, .string p] w fun e w' => e = .returned (.bool (sufS s p)) ∧ w = w' := by
  go_enter Tryd.func107, Tryd.ntmps107
  go_wp2_with fail
  refine (hasSuffix2_any s p _ hs).mono ?_
  rintro e w' ⟨rfl, rfl⟩
  go_wp2_with fail
  go_ret
  exact ⟨rfl, rfl⟩

set_option maxRecDepth 100000 in
set_option maxHeartbeats 1600000 in
theorem endOf_any (k : Int) (A : Option Addr) (n c B : Nat) (l : List R) (t : ByteArray) (w : World) (h : Own B w (.slice A n c) 2 n (rulesC l)) (ht : t.size ≤ 1048576) :
    Calls Tryd.prog 108 #[.agg #[.int .i64 k, .slice A n c], .string t] w fun x w' => x = .returned (endV (endOfS l t)) ∧ Below w.heap.size w w' := by
  have hmax := h.bound
  unfold maxLen at hmax
  have Hlen := Lib.hid h.rlen
  have HO := Lib.hid h
  clear h
  go_enter Tryd.func108, Tryd.ntmps108
  go_wp2_with fail
  go_loopw [10] (fun i wr => ∃ q : Nat, i = .int .i64 q ∧ q ≤ t.size ∧ Hid (∀ j, j < q → ruleAt l t j = none) ∧ Hid (Blk wr w.heap.size 25 #[.int .i64 k, .slice A n c]) ∧ Hid (Blk wr (w.heap.size + 1) 97 #[.int .i64 0, .int .i64 0]) ∧ Below w.heap.size w wr) (fun i _ => t.size - (intOf i).toNat)
  case atStart => exact ⟨0, rfl, Nat.zero_le _, fun j hj => by omega, (Blk.new1 _ _ _).alloc _, Blk.new2 _ _ _ _, bel2 _ _ _⟩
  case round =>
    obtain ⟨q, rfl, hq, HN, HB, HE, hb⟩ := hrel
    have hbs := hb.size
    obtain ⟨s0, s1, -, -, sl⟩ := HB.out.two
    by_cases hqs : q < t.size
    · go_wp2_with fail
      clear s0 s1 sl hbs
      obtain ⟨w0, hw0⟩ : ∃ x : World, x = wr := ⟨_, rfl⟩
      clear hw0
      go_loopw [16] (fun i wx => ∃ j : Nat, i = .int .i64 j ∧ j ≤ n ∧ Hid (∀ j' r', j' < j → l[j']? = some r' → begS r'.1 (t.extract q t.size) = false) ∧ Hid (Blk wx w.heap.size 25 #[.int .i64 k, .slice A n c]) ∧ Hid (Blk wx (w.heap.size + 1) 97 #[.int .i64 0, .int .i64 0]) ∧ Below w.heap.size w wx) (fun i _ => n - (intOf i).toNat)
      case atStart => exact ⟨0, rfl, Nat.zero_le _, fun j r' hj => by omega, HB, HE, hb⟩
      case round =>
        clear HB hb HE
        obtain ⟨j, rfl, hj, HM, HB, HE, hb⟩ := hrel
        have hbs := hb.size
        by_cases hlt : j < n
        · obtain ⟨g, off, c0, hv⟩ := HO.out.formR (by omega)
          obtain ⟨rfl, rfl⟩ : A = some ⟨g, off, none⟩ ∧ c = c0 := by injection hv with a _ b; exact ⟨a, b⟩
          clear hv
          obtain ⟨-, hgl, ⟨u, v⟩, hr, x0, x1, -, -⟩ := (HO.out.below hb).rule hlt
          have Hr := Lib.hid hr
          clear hr
          have b1 := Lib.hid (hb.alloc hbs (.cells #[.string u, .string v] 88))
          have HB1 := Lib.hid (HB.out.alloc (.cells #[.string u, .string v] 88))
          have HE1 := Lib.hid (HE.out.alloc (.cells #[.string u, .string v] 88))
          obtain ⟨r0, r1, -, -, rl⟩ := (Blk.new1 wr #[.string u, .string v] 88).two
          go_wp2_with fail
          clear x0 x1 hgl
          generalize wr.alloc (.cells #[.string u, .string v] 88) = w1 at *
          go_region_held3 (fun w' => w'.cell? ⟨wr.heap.size, 0, none⟩ = some (.string u) ∧ w'.cell? ⟨wr.heap.size, 1, none⟩ = some (.string v) ∧ Hid (Blk w' w.heap.size 25 #[.int .i64 k, .slice (some ⟨g, off, none⟩) n c]) ∧ Hid (Blk w' (w.heap.size + 1) 97 #[.int .i64 0, .int .i64 0]) ∧ Below w.heap.size w w')
            (first | exact ⟨r0, r1, HB1, HE1, b1.out.drew⟩ | assumption)
            ((go_at_call 111; refine (beginsWith_any _ _ _).mono ?_; rintro e w' ⟨rfl, rfl⟩))
          have hS := ‹_ ∧ _ ∧ _ ∧ _ ∧ Below w.heap.size w w1.drew›
          obtain ⟨-, -, HB2, HE2, b2⟩ := hS
          generalize w1.drew = w2 at *
          have hb2 := b2.size
          cases hbb : begS u (t.extract q t.size)
          · have HM2 : Hid (∀ j' r', j' < j + 1 → l[j']? = some r' → begS r'.1 (t.extract q t.size) = false) := fun j' r' h1 h2 => by
              by_cases e : j' = j
              · subst e; rw [Hr.out] at h2; injection h2 with h2; subst h2; exact hbb
              · exact HM.out j' r' (by omega) h2
            clear hbb
            go_wp2_with fail
            go_roundw
            case rel => exact ⟨j + 1, by go_num, by omega, HM2, HB2, HE2, b2⟩
            case measure => simp [intOf]; omega
          · have Hit := Lib.hid (endOfS_hit hqs (ruleAt_hit Hr.out hbb HM.out) HN.out)
            obtain ⟨e0, e1, f0, f1, el⟩ := HE2.out.two
            clear hbb
            go_wp2_with fail
            refine bodyPost_ret (v := .agg #[.int .i64 j, .int .i64 ((t.size : Int) - q)]) (by simp [results, Tryd.results108, go_sem, *]) rfl ⟨?_, ?_⟩
            · rw [Hit.out, show ((t.size : Int) - q) = ((t.size - q : Nat) : Int) by omega]
            · exact (b2.setCell (by simp) _).setCell (by simp) _
        · obtain rfl : j = n := by omega
          have HN2 : Hid (∀ j', j' < q + 1 → ruleAt l t j' = none) := fun j' h1 => by
            by_cases e : j' = q
            · subst e; exact ruleAt_none (fun i r' h2 h3 => HM.out i r' (by rw [← Hlen.out]; exact h2) h3)
            · exact HN.out j' (by omega)
          go_wp2_with fail
          go_roundw
          case rel => exact ⟨q + 1, by go_num, by omega, HN2, HB, HE, hb⟩
          case measure => simp [intOf]; omega
    · obtain rfl : q = t.size := by omega
      have Hit := Lib.hid (endOfS_miss HN.out)
      obtain ⟨e0, e1, f0, f1, el⟩ := HE.out.two
      go_wp2_with fail
      refine bodyPost_ret (v := .agg #[.int .i64 0, .int .i64 0]) (by simp [results, Tryd.results108, go_sem, *]) rfl ⟨?_, ?_⟩
      · rw [Hit.out]; rfl
      · exact (hb.setCell (by simp) _).setCell (by simp) _

/-- What endAfter answers. -/
def afterV (o : Option E) : Value := match o with | some e => .tuple #[endV e, .bool true] | none => .tuple #[endV (0, 0), .bool false]
theorem hit_step (l : List R) (t : ByteArray) (j : Nat) (r : R) (h : l[j]? = some r) : hitS (l.take (j + 1)) t = (hitS (l.take j) t || sufS t r.1) := by
  have hk := (List.getElem?_eq_some_iff.1 h).1
  have he := (List.getElem?_eq_some_iff.1 h).2
  rw [List.take_succ_eq_append_getElem hk, he]; simp [hitS]
theorem hit_yes {l : List R} {t : ByteArray} {j : Nat} {r : R} (h : l[j]? = some r) (hs : sufS t r.1 = true) : hitS l t = true := by
  unfold hitS
  rw [List.any_eq_true]; exact ⟨r, List.mem_of_getElem? h, hs⟩
set_option maxRecDepth 100000 in
set_option maxHeartbeats 1600000 in
theorem endAfter_any (k : Int) (A : Option Addr) (n c B : Nat) (l : List R) (e : E) (x : Nat) (w : World) (h : Own B w (.slice A n c) 2 n (rulesC l)) (he : GoodE l e) (hl : ∀ r ∈ l, r.1.size ≤ 8) (hx : x < 4) :
    Calls Tryd.prog 87 #[.agg #[.int .i64 k, .slice A n c], endV e, .int .u8 (97 + (x : Int))] w fun y w' => y = .returned (afterV (nxtS l e x)) ∧ Below w.heap.size w w' := by
  have hmax := h.bound
  unfold maxLen at hmax
  have Hlen := Lib.hid h.rlen
  have HO := Lib.hid h
  have HG := Lib.hid he
  have HL := Lib.hid hl
  have hts : (textE l e).size ≤ 8 := he.size hl
  obtain ⟨bb, hbs, hbx, hcv⟩ := letter_text x hx
  have Hb := Lib.hid (show textE l e ++ bb = ext1 (textE l e) x by unfold ext1; rw [hbx])
  clear h he hl hbx
  go_enter Tryd.func87, Tryd.ntmps87
  go_wp2_with fail
  refine (textE_any k A n c B l e _ (HO.out.below (bel3 _ _ _ _)) HG.out HL.out).mono ?_
  rintro y w1 ⟨rfl, hb1⟩
  have b1 := (bel3 w _ _ _).trans (hb1.mono (by simp; omega))
  have HS1 := Lib.hid ((((Blk.new1 w #[.int .i64 k, .slice A n c] 25).alloc _).alloc _).below hb1 (by simp; omega))
  have HR1 := Lib.hid ((Blk.new3 w _ _ #[.int .i64 0, .int .i64 0] 97).below hb1 (by simp))
  obtain ⟨s0, s1, -, -, sl⟩ := HS1.out.two
  clear hb1
  go_wp2_with fail
  clear s0 s1 sl
  have htl : (textE l e ++ bb).size ≤ 9 := by rw [ByteArray.size_append, hbs]; omega
  have HN : Hid (nxtS l e x = if hitS l (textE l e ++ bb) then none else some (endOfS l (textE l e ++ bb))) := by show _ = _; rw [Hb.out]; rfl
  generalize textE l e ++ bb = t at *
  go_loopw [21] (fun i wx => ∃ j : Nat, i = .int .i64 j ∧ j ≤ n ∧ Hid (hitS (l.take j) t = false) ∧ Hid (Blk wx w.heap.size 25 #[.int .i64 k, .slice A n c]) ∧ Hid (Blk wx (w.heap.size + 1 + 1) 97 #[.int .i64 0, .int .i64 0]) ∧ Below w.heap.size w wx) (fun i _ => n - (intOf i).toNat)
  case atStart => exact ⟨0, rfl, Nat.zero_le _, rfl, HS1, HR1, b1⟩
  case round =>
    obtain ⟨j, rfl, hj, HM, HB, HE, hb⟩ := hrel
    have hbs2 := hb.size
    by_cases hlt : j < n
    · obtain ⟨g, off, c0, hv⟩ := HO.out.formR (by omega)
      obtain ⟨rfl, rfl⟩ : A = some ⟨g, off, none⟩ ∧ c = c0 := by injection hv with a _ b; exact ⟨a, b⟩
      clear hv
      obtain ⟨-, hgl, ⟨u, v⟩, hr, x0, x1, -, -⟩ := (HO.out.below hb).rule hlt
      have Hr := Lib.hid hr
      clear hr
      have b2 := hb.alloc hbs2 (.cells #[.string u, .string v] 88)
      have HB2 := Lib.hid (HB.out.alloc (.cells #[.string u, .string v] 88))
      have HE2 := Lib.hid (HE.out.alloc (.cells #[.string u, .string v] 88))
      obtain ⟨r0, r1, -, -, rl⟩ := (Blk.new1 wr #[.string u, .string v] 88).two
      go_wp2_with fail
      clear x0 x1 hgl
      refine (hasSuffix_any t u _ (by omega)).mono ?_
      rintro y w2 ⟨rfl, rfl⟩
      generalize wr.alloc (.cells #[.string u, .string v] 88) = w3 at *
      have hb3 := b2.size
      have Hst := Lib.hid (hit_step l t j _ Hr.out)
      cases hbb : sufS t u
      · have HM2 : Hid (hitS (l.take (j + 1)) t = false) := by show _ = _; rw [Hst.out, HM.out, hbb]; rfl
        clear hbb
        go_wp2_with fail
        go_roundw
        case rel => exact ⟨j + 1, by go_num, by omega, HM2, HB2, HE2, b2⟩
        case measure => simp [intOf]; omega
      · have Hit := Lib.hid (hit_yes Hr.out hbb)
        obtain ⟨e0, e1, f0, f1, el⟩ := HE2.out.two
        clear hbb
        go_wp2_with fail
        refine bodyPost_ret (v := .tuple #[endV (0, 0), .bool false]) (by simp [results, Tryd.results87, go_sem, *]) rfl ⟨?_, ?_⟩
        · rw [HN.out, Hit.out]; rfl
        · exact (b2.setCell (by simp; omega) _).setCell (by simp; omega) _
    · have HM3 : Hid (hitS l t = false) := by
        have h1 := HM.out
        rw [List.take_of_length_le (by rw [Hlen.out]; omega)] at h1
        exact h1
      obtain ⟨s0, s1, -, -, sl⟩ := HB.out.two
      go_wp2_with fail
      clear s0 s1 sl
      refine (endOf_any k A n c B l t _ (HO.out.below hb) (by omega)).mono ?_
      rintro y w2 ⟨rfl, hb2⟩
      have b2 := hb.trans (hb2.mono hbs2)
      have hn2 : w.heap.size + 1 + 1 < wr.heap.size := HE.out.lt
      obtain ⟨e0, e1, f0, f1, el⟩ := (HE.out.below hb2 hn2).two
      clear hb2
      have HN2 : Hid (nxtS l e x = some (endOfS l t)) := by show _ = _; rw [HN.out, HM3.out]; rfl
      generalize endOfS l t = ee at *
      go_wp2_with fail
      refine bodyPost_ret (v := .tuple #[endV ee, .bool true]) (by simp [results, Tryd.results87, go_sem, *]) rfl ⟨?_, ?_⟩
      · rw [HN2.out]; rfl
      · exact (b2.setCell (by simp; omega) _).setCell (by simp; omega) _
end Go.Proofs.YtjecadpofkblnaaDoor
