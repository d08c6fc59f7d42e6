/- The ends and the moves of a system: slices.Contains at ends, addMoves, languageOf. -/
import Derived.Test.YtjecadpofkblnaaDoorTally
import Derived.Test.YtjecadpofkblnaaDoorSteps
import Derived.ArgAppend
import Derived.Deep.Cut
import Derived.Deep.CutRange
import Derived.StillTailTactics
import Derived.Deep.AppendLies
import Derived.Deep.RegionLaw
namespace Go.Proofs.YtjecadpofkblnaaDoor
open Go.RowKit Go.Maps

def endsC (Q : List E) : List Value := stepsC (Q.map fun e => ((e.1 : Int), (e.2 : Int)))
theorem endsC_length (Q : List E) : (endsC Q).length = Q.length * 2 := by unfold endsC; rw [stepsC_length, List.length_map]
theorem Own.endAt {B n g off c : Nat} {w : World} {Q : List E} (h : Own B w (.slice (some ⟨g, off, none⟩) n c) 2 n (endsC Q)) {k : Nat} (hk : k < n) :
    B ≤ g ∧ g < w.heap.size ∧ ∃ e : E, Q[k]? = some e ∧ w.cell? ⟨g, off + k * 2, none⟩ = some (.int .i64 e.1) ∧ w.cell? ⟨g, off + k * 2 + 1, none⟩ = some (.int .i64 e.2) := by
  obtain ⟨h1, h2, r, hr, x0, x1, -, -⟩ := Own.step (l := Q.map fun e => ((e.1 : Int), (e.2 : Int))) h hk
  rw [List.getElem?_map] at hr
  cases he : Q[k]? with
  | none => rw [he] at hr; cases hr
  | some e =>
    rw [he] at hr
    injection hr with hr
    subst hr
    exact ⟨h1, h2, e, rfl, x0, x1⟩
theorem Own.elen {B n : Nat} {w : World} {v : Value} {Q : List E} (h : Own B w v 2 n (endsC Q)) : Q.length = n := by have := h.1; rw [endsC_length] at this; omega
theorem infoEnd : (Tryd.prog.info? 97).map (fun i => (i.zero, i.size, i.bytes)) = some (some (.agg #[.int .i64 0, .int .i64 0]), 2, 16) := by kernel_rfl
theorem mem_take_step {Q : List E} {j : Nat} {x e : E} (h : Q[j]? = some x) (hne : x ≠ e) (hn : e ∉ Q.take j) : e ∉ Q.take (j + 1) := by
  rw [take_mem_succ h]
  rintro (h1 | h1)
  · exact hn h1
  · exact hne h1.symm

set_option maxRecDepth 100000 in
set_option maxHeartbeats 800000 in
theorem indexE_any (A : Option Addr) (n c B : Nat) (Q : List E) (e : E) (w : World) (h : Own B w (.slice A n c) 2 n (endsC Q)) :
    Calls Tryd.prog 109 #[.slice A n c, endV e] w fun y w' => ∃ q : Int, y = .returned (.int .i64 q) ∧ Hid (decide (0 ≤ q) = decide (e ∈ Q)) ∧ Below w.heap.size w w' := by
  have hmax := h.bound
  have Hlen := Lib.hid h.elen
  unfold maxLen at hmax
  have HO := Lib.hid h
  clear h
  go_enter Tryd.func109, Tryd.ntmps109
  go_wp2_with fail
  go_loopw [8] (fun i wr => ∃ j : Nat, j ≤ n ∧ i = .int .i64 j ∧ Hid (e ∉ Q.take j) ∧ Hid (Blk wr w.heap.size 97 #[.int .i64 e.1, .int .i64 e.2]) ∧ Below w.heap.size w wr) (fun i _ => n - (intOf i).toNat)
  case atStart => exact ⟨0, Nat.zero_le _, rfl, (by simp : e ∉ Q.take 0), Blk.new1 _ _ _, bel1 _ _⟩
  case round =>
    obtain ⟨j, hj, rfl, HX, HB, hb⟩ := hrel
    have hbs := hb.size
    obtain ⟨q0, q1, -, -, ql⟩ := HB.out.two
    by_cases hlt : j < n
    · obtain ⟨g, off, c0, hv⟩ := HO.out.formR (by omega)
      obtain ⟨rfl, rfl⟩ : A = some ⟨g, off, none⟩ ∧ c = c0 := by injection hv with a _ b; exact ⟨a, b⟩
      clear hv
      obtain ⟨-, hgl, f, hr, x0, x1⟩ := (HO.out.below hb).endAt hlt
      have Hr := Lib.hid hr
      clear hr
      by_cases hd : f = e
      · have heq := fun w' => (run_eqlEnd e.1 e.2 f.1 f.2 w').trans (by rw [eqE, decide_eq_true hd.symm])
        have He := Lib.hid (show decide (e ∈ Q) = true from decide_eq_true (by rw [← hd]; exact List.mem_of_getElem? Hr.out))
        clear hd
        go_wp2_with fail
        go_quiet (fail)
        all_goals go_wp2_with fail
        go_ret
        exact ⟨j, rfl, by show decide _ = _; rw [He.out]; simp, below_drewN hb _⟩
      · have heq := fun w' => (run_eqlEnd e.1 e.2 f.1 f.2 w').trans (by rw [eqE, decide_eq_false (fun h => hd h.symm)])
        have HX2 : Hid (e ∉ Q.take (j + 1)) := mem_take_step Hr.out hd HX.out
        clear hd
        go_wp2_with fail
        go_quiet (fail)
        all_goals go_wp2_with fail
        go_roundw
        case rel => exact ⟨j + 1, by omega, by go_num, HX2, Blk.drewN HB.out _, below_drewN hb _⟩
        case measure => simp [intOf]; omega
    · have He := Lib.hid (show false = decide (e ∈ Q) by
        have h1 := HX.out
        rw [List.take_of_length_le (by rw [Hlen.out]; omega)] at h1
        exact (decide_eq_false h1).symm)
      go_wp2_with fail
      go_ret
      exact ⟨-1, rfl, by show decide _ = _; rw [← He.out]; rfl, hb⟩
set_option maxHeartbeats 800000 in
theorem containsE_any (A : Option Addr) (n c B : Nat) (Q : List E) (e : E) (w : World) (h : Own B w (.slice A n c) 2 n (endsC Q)) :
    Calls Tryd.prog 88 #[.slice A n c, endV e] w fun y w' => y = .returned (.bool (decide (e ∈ Q))) ∧ Below w.heap.size w w' := by
  have HO := Lib.hid (fun o1 => h.below (bel1 w o1))
  clear h
  go_enter Tryd.func88, Tryd.ntmps88
  go_wp2_with fail
  refine (indexE_any A n c B Q e _ (HO.out _)).mono ?_
  rintro y w1 ⟨q, rfl, He, hb1⟩
  have b1 := (bel1 w _).trans (hb1.mono (by simp))
  clear hb1
  go_wp2_with fail
  go_ret
  exact ⟨ret_bool He.out, b1⟩

def aftV (F : E → Nat → Option E) : M → Option Value := fun m => (F m.1 m.2).map fun e => endV e
/-- Block gL is a language: the ends Q, in a block from b0 on, and the moves F, in block mA. -/
structure LangS (W : World) (b0 gL mA k c : Nat) (Q : List E) (F : E → Nat → Option E) : Prop where
  row : ∃ A cap, Blk W gL 101 #[.int .i64 k, .slice A Q.length cap, .map (some mA)] ∧ W.ownsRow b0 97 2 (.slice A Q.length cap) Q.length (endsC Q)
  map : MapOf moveK W mA c (aftV F)
  bL : b0 ≤ gL
  bA : b0 ≤ mA

theorem after_form (o : Option E) : ∃ (u v : Nat) (cc : Bool), afterV o = .tuple #[.agg #[.int .i64 (u : Int), .int .i64 (v : Int)], .bool cc] ∧ o = if cc then some (u, v) else none := by
  cases o with
  | none => exact ⟨0, 0, false, rfl, rfl⟩
  | some e => exact ⟨e.1, e.2, true, rfl, rfl⟩
theorem aftV_none {F : E → Nat → Option E} (h : F = fun _ _ => none) : aftV F = fun _ => none := by subst h; rfl
theorem aftV_put {l : List R} {k : Nat} {Q : List E} {a j : Nat} {e e' : E} (hd : Q.Nodup) (he : Q[a]? = some e) (hn : nxtS l e j = some e') : putF (aftV (aftF l k Q a j)) (e, j) (endV e') = aftV (aftF l k Q a (j + 1)) := by
  funext m
  unfold putF aftV
  rw [aftF_step hd he]
  by_cases h : m = (e, j)
  · subst h
    rw [if_pos rfl, if_pos ⟨rfl, rfl⟩, hn]; rfl
  · rw [if_neg h, if_neg (fun h2 => h (Prod.ext h2.1 h2.2))]
theorem LangS.turn {W W' : World} {S : List Nat} {b0 gL mA k c : Nat} {Q : List E} {F : E → Nat → Option E} (h : LangS W b0 gL mA k c Q F) (ht : Turn S W W') (hS : ∀ b ∈ S, W.heap.size ≤ b) : LangS W' b0 gL mA k c Q F := by
  have hb : Below W.heap.size W W' := ht.below hS (Nat.le_refl _)
  obtain ⟨⟨A, cap, h1, h2⟩, h3, h4, h5⟩ := h
  exact ⟨⟨A, cap, h1.below hb h1.lt, ownsRow_below h2 hb⟩, h3.below moveK hb (h3.lt moveK), h4, h5⟩
theorem LangS.below {W W' : World} {b0 gL mA k c : Nat} {Q : List E} {F : E → Nat → Option E} (h : LangS W b0 gL mA k c Q F) (hb : Below W.heap.size W W') : LangS W' b0 gL mA k c Q F :=
  h.turn (S := []) (turn_below hb) (fun b hm => by cases hm)

/-- An end more, and its header stored: how all lies then. -/
theorem push_end {w w7 w9 : World} {b0 gL mA k c cc n g9 cp9 cap u v : Nat} {A A2 : Option Addr} {e : E} {Q : List E} {F : E → Nat → Option E} {s9 : Value} (hs9 : s9 = .slice (some ⟨g9, 0, none⟩) (Q.length + 1) cp9)
    (hB7 : Blk w7 gL 101 #[.int .i64 k, .slice A2 Q.length cap, .map (some mA)]) (hR7 : w7.ownsRow b0 97 2 (.slice A2 Q.length cap) Q.length (endsC Q)) (hM7 : MapOf moveK w7 mA c (aftV F)) (hbL : b0 ≤ gL) (hbA : b0 ≤ mA)
    (hS7 : Blk w7 w.heap.size 25 #[.int .i64 k, .slice A n cc]) (hF7 : Blk w7 (w.heap.size + 1) 97 #[.int .i64 e.1, .int .i64 e.2]) (hX : (Value.slice A2 Q.length cap).ownBlock ≠ some (w.heap.size + 1)) (hb : Below b0 w w7) (hB : b0 ≤ w.heap.size)
    (hgrow : (w7.alloc (.cells #[.int .i64 u, .int .i64 v] 97)).drew.grownBy w9 (Value.slice A2 Q.length cap).ownBlock)
    (hown : w9.ownsRow b0 97 2 (.slice (some ⟨g9, 0, none⟩) (Q.length + 1) cp9) (Q.length + 1) (endsC Q ++ [.int .i64 u, .int .i64 v])) (hat : (Value.slice A2 Q.length cap).ownBlock = some g9 ∨ g9 = w7.heap.size + 1) :
    LangS (w9.setCell ⟨gL, 1, none⟩ s9) b0 gL mA k c (Q ++ [(u, v)]) F ∧ Blk (w9.setCell ⟨gL, 1, none⟩ s9) w.heap.size 25 #[.int .i64 k, .slice A n cc] ∧
      Blk (w9.setCell ⟨gL, 1, none⟩ s9) (w.heap.size + 1) 97 #[.int .i64 e.1, .int .i64 e.2] ∧ Below b0 w (w9.setCell ⟨gL, 1, none⟩ s9) ∧ (∀ v', (w9.setCell ⟨gL, 1, none⟩ s9).cell? ⟨gL, 1, none⟩ = some v' → v'.ownBlock ≠ some (w.heap.size + 1)) := by
  have hbs := hb.size
  have hF7l := hF7.lt
  have hrowne : ∀ i o, w7.heap[i]? = some o → (∀ cs, o ≠ .cells cs 97 (0, 0)) → some i ≠ (Value.slice A2 Q.length cap).ownBlock := fun i o ho hne e => by
    rcases hR7.2 with ⟨h, _⟩ | ⟨g, cp, cur, h, _, hg, _⟩
    · rw [h] at e; cases e
    · rw [h] at e
      have e' : i = g := by simpa [Value.ownBlock] using e
      subst e'
      rw [hg] at ho; injection ho with ho
      exact hne _ ho.symm
  have h9 : ∀ i, i < w7.heap.size → some i ≠ (Value.slice A2 Q.length cap).ownBlock → w9.heap[i]? = w7.heap[i]? := fun i h1 h2 => (hgrow.block i (by simp; omega) h2).trans (Below.heap_alloc _ _ _ h1)
  have hXL : some gL ≠ (Value.slice A2 Q.length cap).ownBlock := hrowne gL _ hB7 (fun cs e => by injection e with _ e _; exact absurd e (by decide))
  have hB9 : Blk w9 gL 101 #[.int .i64 k, .slice A2 Q.length cap, .map (some mA)] := (h9 gL hB7.lt hXL).trans hB7
  have hg9L : g9 ≠ gL := fun e => by
    subst e
    rcases hat with h | h
    · exact hXL h.symm
    · have := hB7.lt; omega
  have B9 := hB9.set_ 1 s9
  have G9 : w9.grownBy (w9.setCell ⟨gL, 1, none⟩ s9) (some gL) := ⟨rfl, rfl, rfl, by simp [World.size_setCell], fun i _ hi => Below.heap_setCell _ _ _ i (fun e => hi (by rw [e]))⟩
  have R9 := hown.kept G9 (Or.inr (by simpa [Value.ownBlock] using hg9L))
  have hEq : endsC (Q ++ [(u, v)]) = endsC Q ++ [Value.int .i64 (u : Int), Value.int .i64 (v : Int)] := by simp [endsC, stepsC, stepC]
  have hmA9 : w9.heap[mA]? = w7.heap[mA]? := h9 mA (hM7.lt moveK) (by
    obtain ⟨es, clock, hm⟩ := hM7.obj moveK
    exact hrowne mA _ hm (fun cs e => by cases e))
  have hSA : Blk w9 w.heap.size 25 #[.int .i64 k, .slice A n cc] := (h9 _ hS7.lt (hrowne _ _ hS7 (fun cs e => by injection e with _ e _; exact absurd e (by decide)))).trans hS7
  have hFA : Blk w9 (w.heap.size + 1) 97 #[.int .i64 e.1, .int .i64 e.2] := (h9 _ hF7.lt (fun h => hX h.symm)).trans hF7
  have hbw : Below b0 w w9 := ((hb.trans ((bel1 w7 (.cells #[.int .i64 u, .int .i64 v] 97)).drew.mono (by omega)))).grown hgrow (by simp; omega) (fun i e => by have := ownsRow_ge hR7 e.symm; omega)
  have hgLA : gL ≠ mA := fun e => by
    obtain ⟨es, clock, hm⟩ := hM7.obj moveK
    unfold Blk at hB7
    rw [e, hm] at hB7; cases hB7
  have hSL : w.heap.size ≠ gL := fun e => by
    unfold Blk at hB7 hS7
    rw [e, hB7] at hS7; injection hS7 with h2; injection h2 with _ h2 _; exact absurd h2 (by decide)
  have hFL : w.heap.size + 1 ≠ gL := fun e => by
    unfold Blk at hB7 hF7
    rw [e, hB7] at hF7; injection hF7 with h2; injection h2 with _ h2 _; exact absurd h2 (by decide)
  refine ⟨⟨⟨some ⟨g9, 0, none⟩, cp9, ?_, ?_⟩, ?_, hbL, hbA⟩, hSA.far hSL _, hFA.far hFL _, hbw.setCell hbL _, fun v' hv' => ?_⟩
  · rw [List.length_append]; subst hs9; exact B9
  · rw [List.length_append, hEq]; exact R9
  · exact (hM7.same moveK hmA9).far moveK (p := ⟨gL, 1, none⟩) (Ne.symm hgLA) _
  · rw [B9.cell 1] at hv'
    have hv2 : s9 = v' := by injection hv'
    subst hv2
    subst hs9
    intro e
    have e' : g9 = w.heap.size + 1 := by simpa [Value.ownBlock] using e
    rcases hat with h | h
    · exact hX (by rw [h, e'])
    · omega

set_option maxRecDepth 100000 in
set_option maxHeartbeats 2000000 in
theorem addMoves_any (k : Nat) (A : Option Addr) (n c B : Nat) (l : List R) (b0 gL mA c0 a : Nat) (Q : List E) (e : E) (w : World) (hl : ∀ r ∈ l, r.1.size ≤ 8) (h12 : l.length ≤ 12) (hk : k ≤ 4) (hlet : ∀ w', Below b0 w w' → Let w')
    (hRb : ∀ w', Below b0 w w' → Own B w' (.slice A n c) 2 n (rulesC l)) (hB : b0 ≤ w.heap.size) (hL : LangS w b0 gL mA k c0 Q (aftF l k Q a 0)) (hat : LangAt l k Q a 0) (he : Q[a]? = some e) (hc : c0 < 100000) :
    Calls Tryd.prog 63 #[.pointer (some ⟨gL, 0, none⟩), .agg #[.int .i64 k, .slice A n c], endV e] w fun y w' => (∃ v, y = .returned v) ∧ ∃ Q', LangS w' b0 gL mA k (c0 + 4) Q' (aftF l k Q' (a + 1) 0) ∧ LangAt l k Q' (a + 1) 0 ∧ Below b0 w w' := by
  obtain ⟨i0, hi, hz0, hz1, hz2⟩ := infoR_parts infoEnd
  have hge := Lib.hid (hat.good e (List.mem_of_getElem? he))
  have hoe : okE e := hge.out.lt hl h12
  have HLet := Lib.hid hlet
  have HRb := Lib.hid hRb
  have Hl := Lib.hid hl
  have H12 := Lib.hid h12
  have hL0 := Lib.hid hL
  have hat0 := Lib.hid hat
  have he0 := Lib.hid he
  obtain ⟨⟨A2, cap, hblk, hrow⟩, -, -, -⟩ := hL
  have g0 : w.cell? ⟨gL, 0, none⟩ = some (.int .i64 k) := hblk.cell 0
  have hgl := hblk.lt
  have HX0 : Hid (∀ v, ((w.alloc (.cells #[.int .i64 k, .slice A n c] 25)).alloc (.cells #[.int .i64 e.1, .int .i64 e.2] 97)).cell? ⟨gL, 1, none⟩ = some v → v.ownBlock ≠ some (w.heap.size + 1)) := fun v hv hv2 => by
    rw [((hblk.alloc _).alloc _).cell 1] at hv
    injection hv with hv
    subst hv
    rcases hrow.2 with ⟨h, _⟩ | ⟨g, cp, cur, h, _, hg, _⟩
    · rw [h] at hv2; cases hv2
    · rw [h] at hv2
      have e' : g = w.heap.size + 1 := by simpa [Value.ownBlock] using hv2
      have := (Array.getElem?_eq_some_iff.1 hg).1
      omega
  clear hblk hrow hlet hRb hl h12 hat he
  go_enter Tryd.func63, Tryd.ntmps63
  go_wp2_with fail
  clear g0 hgl A2 cap
  go_loopw [13] (fun i wr => ∃ (j : Nat) (Q : List E), i = .int .i64 j ∧ j ≤ k ∧ Hid (LangAt l k Q a j) ∧ Hid (LangS wr b0 gL mA k (c0 + j) Q (aftF l k Q a j)) ∧ Hid (Q[a]? = some e) ∧ Hid (Blk wr w.heap.size 25 #[.int .i64 k, .slice A n c]) ∧ Hid (Blk wr (w.heap.size + 1) 97 #[.int .i64 e.1, .int .i64 e.2]) ∧ Below b0 w wr ∧ Hid (∀ v, wr.cell? ⟨gL, 1, none⟩ = some v → v.ownBlock ≠ some (w.heap.size + 1))) (fun i _ => k - (intOf i).toNat)
  case atStart => exact ⟨0, Q, rfl, Nat.zero_le _, hat0, hL0.out.below (bel2 _ _ _), he0, (Blk.new1 _ _ _).alloc _, Blk.new2 _ _ _ _, (bel2 _ _ _).mono hB, HX0⟩
  case round =>
    clear hL0 hat0 he0 HX0 Q
    obtain ⟨j, Q, rfl, hj, HA, HL, HQ, HS, HF, hb, HX⟩ := hrel
    have hbs := hb.size
    have hbB : b0 ≤ wr.heap.size := by omega
    by_cases hlt : j < k
    · obtain ⟨s0, s1, -, -, sl⟩ := HS.out.two
      obtain ⟨f0, f1, -, -, fl⟩ := HF.out.two
      have hcl := (HLet.out wr hb).cell j (by omega)
      have HSt : Hid (∀ w', Below wr.heap.size wr w' → w'.cell? ⟨w.heap.size, 0, none⟩ = some (.int .i64 k) ∧ w'.cell? ⟨w.heap.size, 1, none⟩ = some (.slice A n c) ∧ w'.cell? ⟨w.heap.size + 1, 0, none⟩ = some (.int .i64 e.1) ∧ w'.cell? ⟨w.heap.size + 1, 1, none⟩ = some (.int .i64 e.2) ∧ w'.cell? ⟨0, j, none⟩ = some (.int .u8 (97 + (j : Int))) ∧ Below wr.heap.size wr w') :=
        fun w' hw => ⟨(hw.cell sl).trans s0, (hw.cell sl).trans s1, (hw.cell fl).trans f0, (hw.cell fl).trans f1, ((HLet.out w' (hb.trans (hw.mono hbB))).cell j (by omega)), hw⟩
      have hj0 : (0 : Int) ≤ (j : Int) := by omega
      have hj4 : (j : Int) < 4 := by omega
      have c0' : Below wr.heap.size wr wr.drew := (Below.refl _ wr).drew
      go_wp2_with fail
      go_cut [7, 8] from 16 to 24 (fun s7 s8 wx => ∃ (d : Nat) (u v : Nat) (cc : Bool), s7 = .pointer (some ⟨d, 0, none⟩) ∧ s8 = .bool cc ∧ wr.heap.size ≤ d ∧ Hid (Blk wx d 97 #[.int .i64 u, .int .i64 v]) ∧ Hid (nxtS l e j = if cc then some (u, v) else none) ∧ Hid (Below wr.heap.size wr wx))
      case first =>
        obtain ⟨u5, v5, cc5, hv5, hn5⟩ := after_form (nxtS l e j)
        have Hv5 := Lib.hid hv5
        have Hn5 := Lib.hid hn5
        clear hv5 hn5
        go_region_held3 (fun w' => w'.cell? ⟨w.heap.size, 0, none⟩ = some (.int .i64 k) ∧ w'.cell? ⟨w.heap.size, 1, none⟩ = some (.slice A n c) ∧ w'.cell? ⟨w.heap.size + 1, 0, none⟩ = some (.int .i64 e.1) ∧ w'.cell? ⟨w.heap.size + 1, 1, none⟩ = some (.int .i64 e.2) ∧ w'.cell? ⟨0, j, none⟩ = some (.int .u8 (97 + (j : Int))) ∧ Below wr.heap.size wr w')
          (first | exact HSt.out _ c0' | exact HSt.out _ (c0'.alloc c0'.size _) | exact HSt.out _ c5 | exact HSt.out _ (c5.alloc c5.size _) | exact HSt.out _ ((c5.setCell (Nat.le_refl _) _).setCell (Nat.le_refl _) _) | exact HSt.out _ (((c5.alloc c5.size _).setCell c5.size _).setCell c5.size _))
          ((go_at_call 87; refine (endAfter_any k A n c B l e j _ (HRb.out _ (hb.trans (Below.mono (by first | exact c0' | exact c0'.alloc c0'.size _) hbB))) hge.out Hl.out (by omega)).mono ?_; rintro y w5 ⟨rfl, hb5⟩; (first | have c5 := c0'.trans (hb5.mono c0'.size) | (have c5 := (c0'.alloc c0'.size _).trans (hb5.mono (c0'.alloc c0'.size _).size); have D5 : Blk w5 wr.heap.size 97 #[.int .i64 0, .int .i64 0] := (Blk.new1 wr.drew #[.int .i64 0, .int .i64 0] 97).below hb5 (by simp); obtain ⟨d50, d51, d5f0, d5f1, d5l⟩ := D5.two)); rw [Hv5.out]))
        all_goals go_wp2_with fail
        all_goals go_meet
        all_goals first
          | exact ⟨_, u5, v5, cc5, rfl, rfl, c5.size, Blk.new1 _ _ _, Hn5.out, c5.alloc c5.size _⟩
          | exact ⟨_, u5, v5, cc5, rfl, rfl, Nat.le_refl _, (D5.set_ 0 _).set_ 1 _, Hn5.out, (c5.setCell (Nat.le_refl _) _).setCell (Nat.le_refl _) _⟩
      case rest =>
        obtain ⟨d, u, v, cc, rfl, rfl, hd, HD, HN, HW⟩ := hcut
        have hbc := Lib.hid (hb.trans (HW.out.mono hbB))
        have HLc := Lib.hid (HL.out.below HW.out)
        have gLr : gL < wr.heap.size := by obtain ⟨⟨A2, cap, hblk, -⟩, -⟩ := HL.out; exact hblk.lt
        have HXc : Hid (∀ v, wc.cell? ⟨gL, 1, none⟩ = some v → v.ownBlock ≠ some (w.heap.size + 1)) := fun v hv => HX.out v ((HW.out.cell gLr).symm.trans hv)
        have HSc := Lib.hid (HS.out.below HW.out sl)
        have HFc := Lib.hid (HF.out.below HW.out fl)
        have hwc := HW.out.size
        clear s0 s1 sl f0 f1 fl hcl HSt c0' HL HS HF
        cases cc
        · have HA2 := Lib.hid (HA.out.skip HQ.out HN.out)
          have HL2 : Hid (LangS wc b0 gL mA k (c0 + (j + 1)) Q (aftF l k Q a (j + 1))) := by
            show LangS _ _ _ _ _ _ _ _
            rw [aftF_none HA.out.nodup HQ.out HN.out]
            obtain ⟨x1, x2, x3, x4⟩ := HLc.out
            exact ⟨x1, x2.mono moveK (by omega), x3, x4⟩
          go_wp2_with fail
          go_roundw
          case rel => exact ⟨j + 1, Q, by go_num, by omega, HA2, HL2, HQ, HSc, HFc, hbc.out, HXc⟩
          case measure => simp [intOf]; omega
        · have HN' : Hid (nxtS l e j = some (u, v)) := HN
          have hgd := (nxt_some k 0 HN'.out).2
          have hov : okE (u, v) := hgd.lt Hl.out H12.out
          obtain ⟨⟨A2, cap, hblk, hrow⟩, hmp, hbL, hbA⟩ := HLc.out
          obtain ⟨W6, hput, hM6, hg6⟩ := (hmp.same moveK (W' := wc.drew) rfl).put moveK (mt := 99) (et := 97) Tryd.underlying99 (by unfold maxLen; omega) (x := (e, j)) ⟨hoe, by omega⟩ (endV (u, v))
          rw [aftV_put HA.out.nodup HQ.out HN'.out] at hM6
          change Sem.run _ (Instr.mapUpdate _ _ (.agg #[.int .i64 e.1, .int .i64 e.2, .int .u8 (97 + (j : Int))]) (.agg #[.int .i64 u, .int .i64 v])) _ = _ at hput
          have HM6 := Lib.hid hM6
          have HG6 : Hid (wc.grownBy W6 (some mA)) := ⟨hg6.os, hg6.tape, hg6.output, hg6.size, hg6.block⟩
          have g1 : wc.cell? ⟨gL, 1, none⟩ = some (.slice A2 Q.length cap) := hblk.cell 1
          have g2 : wc.cell? ⟨gL, 2, none⟩ = some (.map (some mA)) := hblk.cell 2
          have d0 : wc.cell? ⟨d, 0, none⟩ = some (.int .i64 u) := HD.out.cell 0
          have d1 : wc.cell? ⟨d, 1, none⟩ = some (.int .i64 v) := HD.out.cell 1
          have f0 : wc.cell? ⟨w.heap.size + 1, 0, none⟩ = some (.int .i64 e.1) := HFc.out.cell 0
          have f1 : wc.cell? ⟨w.heap.size + 1, 1, none⟩ = some (.int .i64 e.2) := HFc.out.cell 1
          have hcl := (HLet.out wc hbc.out).cell j (by omega)
          have Hblk := Lib.hid hblk
          have HX1 : Hid ((Value.slice A2 Q.length cap).ownBlock ≠ some (w.heap.size + 1)) := HXc.out _ (hblk.cell 1)
          have Hrow := Lib.hid hrow
          clear hblk hrow hM6 hg6
          go_wp2_with fail
          go_still_tail 10, (by kernel_rfl)
          change wpList _ _ _ _ _ wc.drew
          go_wp2_with fail
          have hs6 : wc.heap.size ≤ W6.heap.size := HG6.out.size
          have hk6 : ∀ i, i < wc.heap.size → i ≠ mA → W6.heap[i]? = wc.heap[i]? := fun i h1 h2 => HG6.out.block i h1 (fun e => h2 (by injection e))
          have hgA : gL ≠ mA := fun e => by
            obtain ⟨es, clock, hm⟩ := hmp.obj moveK
            have h1 := Hblk.out
            unfold Blk at h1
            rw [e, hm] at h1; cases h1
          have hdA : d ≠ mA := fun e => by
            obtain ⟨es, clock, hm⟩ := hmp.obj moveK
            have h1 := HD.out
            unfold Blk at h1
            rw [e, hm] at h1; cases h1
          have HB6 : Hid (Blk W6 gL 101 #[.int .i64 k, .slice A2 Q.length cap, .map (some mA)]) := (hk6 gL Hblk.out.lt hgA).trans Hblk.out
          have HD6 : Hid (Blk W6 d 97 #[.int .i64 u, .int .i64 v]) := (hk6 d HD.out.lt hdA).trans HD.out
          have HR6 : Hid (W6.ownsRow b0 97 2 (.slice A2 Q.length cap) Q.length (endsC Q)) := Hrow.out.kept HG6.out (by
            rcases Hrow.out.2 with ⟨h, _⟩ | ⟨g, cp, cur, h, _, hg, _⟩
            · left; rw [h]; rfl
            · right
              rw [h]
              intro e
              obtain ⟨es, clock, hm⟩ := hmp.obj moveK
              have e' : g = mA := by simpa [Value.ownBlock] using e
              rw [e', hm] at hg; cases hg)
          have hb6 : Hid (Below b0 w W6) := hbc.out.grown HG6.out (by omega) (fun i e => by injection e with e; omega)
          have HS6 : Hid (Blk W6 w.heap.size 25 #[.int .i64 k, .slice A n c]) := (hk6 _ HSc.out.lt (fun e => by
            obtain ⟨es, clock, hm⟩ := hmp.obj moveK
            have h1 := HSc.out
            unfold Blk at h1
            rw [e, hm] at h1; cases h1)).trans HSc.out
          have HF6 : Hid (Blk W6 (w.heap.size + 1) 97 #[.int .i64 e.1, .int .i64 e.2]) := (hk6 _ HFc.out.lt (fun e => by
            obtain ⟨es, clock, hm⟩ := hmp.obj moveK
            have h1 := HFc.out
            unfold Blk at h1
            rw [e, hm] at h1; cases h1)).trans HFc.out
          have q1 : W6.cell? ⟨gL, 1, none⟩ = some (.slice A2 Q.length cap) := HB6.out.cell 1
          have e0 : W6.cell? ⟨d, 0, none⟩ = some (.int .i64 u) := HD6.out.cell 0
          have e1 : W6.cell? ⟨d, 1, none⟩ = some (.int .i64 v) := HD6.out.cell 1
          have HO6 := Lib.hid (Own.of_row HR6.out)
          clear g1 g2 d0 d1 f0 f1 hcl hput hk6 HG6 Hblk HD Hrow HSc HFc hmp HLc hbc
          have gl6 : gL < W6.heap.size := HB6.out.lt
          have dl6 : d < W6.heap.size := HD6.out.lt
          have HS7 : Hid (∀ w', Below W6.heap.size W6 w' → w'.cell? ⟨gL, 1, none⟩ = some (.slice A2 Q.length cap) ∧ w'.cell? ⟨d, 0, none⟩ = some (.int .i64 u) ∧ w'.cell? ⟨d, 1, none⟩ = some (.int .i64 v) ∧ Below W6.heap.size W6 w') :=
            fun w' hw => ⟨(hw.cell gl6).trans q1, (hw.cell dl6).trans e0, (hw.cell dl6).trans e1, hw⟩
          have c6 : Below W6.heap.size W6 W6.drew := (Below.refl _ W6).drew
          go_region_held3 (fun w' => w'.cell? ⟨gL, 1, none⟩ = some (.slice A2 Q.length cap) ∧ w'.cell? ⟨d, 0, none⟩ = some (.int .i64 u) ∧ w'.cell? ⟨d, 1, none⟩ = some (.int .i64 v) ∧ Below W6.heap.size W6 w')
            (first | exact HS7.out _ c6 | exact HS7.out _ c7)
            ((go_at_call 88; refine (containsE_any A2 Q.length cap b0 Q (u, v) _ (HO6.out.below c6)).mono ?_; rintro y w7 ⟨rfl, hb7⟩; have c7 := c6.trans (hb7.mono c6.size)))
          have hS := ‹_ ∧ _ ∧ _ ∧ Below W6.heap.size W6 w7›
          obtain ⟨q2, e2, e3, b7⟩ := hS
          have hs7 := b7.size
          have hbB6 : b0 ≤ W6.heap.size := by omega
          have HB7 := Lib.hid (HB6.out.below b7 HB6.out.lt)
          have HR7 := Lib.hid (ownsRow_below HR6.out b7)
          have HM7 := Lib.hid (HM6.out.below moveK b7 (HM6.out.lt moveK))
          have HS7' := Lib.hid (HS6.out.below b7 HS6.out.lt)
          have HF7 := Lib.hid (HF6.out.below b7 HF6.out.lt)
          have hb7' := Lib.hid (hb6.out.trans (b7.mono hbB6))
          clear q1 e0 e1 HS7 c6 HB6 HD6 HR6 HM6 HS6 HF6 hb6 HO6
          by_cases hmem : (u, v) ∈ Q
          · have HA2 := Lib.hid (HA.out.old HQ.out HN'.out hmem)
            have hdm : decide ((u, v) ∈ Q) = true := decide_eq_true hmem
            rw [hdm]
            clear hmem hdm
            go_wp2_with fail
            go_roundw
            case rel => exact ⟨j + 1, Q, by go_num, by omega, HA2, ⟨⟨A2, cap, HB7.out, HR7.out⟩, HM7.out, hbL, hbA⟩, HQ, HS7', HF7, hb7'.out, fun v hv => by rw [HB7.out.cell 1] at hv; injection hv with hv; subst hv; exact HX1.out⟩
            case measure => simp [intOf]; omega
          · have HA2 := Lib.hid (HA.out.new HQ.out HN'.out hmem)
            have hdm : decide ((u, v) ∈ Q) = false := decide_eq_false hmem
            have hQl := HA.out.len Hl.out H12.out
            rw [hdm]
            clear hmem hdm
            have HR8 : Hid ((w7.alloc (.cells #[.int .i64 u, .int .i64 v] 97)).drew.ownsRow b0 97 2 (.slice A2 Q.length cap) Q.length (endsC Q)) := ownsRow_below HR7.out (bel1 w7 _).drew
            have q3 : (w7.alloc (.cells #[.int .i64 u, .int .i64 v] 97)).cell? ⟨gL, 1, none⟩ = some (.slice A2 Q.length cap) := (HB7.out.alloc _).cell 1
            have hnews : ∀ i x, [Value.int .i64 (u : Int), Value.int .i64 (v : Int)][i]? = some x → (w7.alloc (.cells #[.int .i64 u, .int .i64 v] 97)).drew.cell? ((⟨w7.heap.size, 0, none⟩ : Addr).add i) = some x := fun i x hx => by
              match i, hx with
              | 0, hx => simp at hx; subst hx; exact (Blk.new1 w7 _ _).cell 0
              | 1, hx => simp at hx; subst hx; exact (Blk.new1 w7 _ _).cell 1
            have hone : ∀ x ∈ [Value.int .i64 (u : Int), Value.int .i64 (v : Int)], x.oneCell' = true := fun x hx => by simp at hx; rcases hx with rfl | rfl <;> rfl
            have hrowne : Hid (∀ i o, w7.heap[i]? = some o → (∀ cs, o ≠ .cells cs 97 (0, 0)) → some i ≠ (Value.slice A2 Q.length cap).ownBlock) := fun i o ho hne e => by
              rcases HR7.out.2 with ⟨h, _⟩ | ⟨g, cp, cur, h, _, hg, _⟩
              · rw [h] at e; cases e
              · rw [h] at e
                have e' : i = g := by simpa [Value.ownBlock] using e
                subst e'
                rw [hg] at ho; injection ho with ho
                exact hne _ ho.symm
            have gl7 : gL < w7.heap.size := HB7.out.lt
            have h9 : Hid (∀ w9, (w7.alloc (.cells #[.int .i64 u, .int .i64 v] 97)).drew.grownBy w9 (Value.slice A2 Q.length cap).ownBlock → ∀ i, i < w7.heap.size → some i ≠ (Value.slice A2 Q.length cap).ownBlock → w9.heap[i]? = w7.heap[i]?) := fun w9 hgrow i h1 h2 => (hgrow.block i (by simp; omega) h2).trans (Below.heap_alloc _ _ _ h1)
            have HB9 : Hid (∀ w9, (w7.alloc (.cells #[.int .i64 u, .int .i64 v] 97)).drew.grownBy w9 (Value.slice A2 Q.length cap).ownBlock → Blk w9 gL 101 #[.int .i64 k, .slice A2 Q.length cap, .map (some mA)]) := fun w9 hg => (h9.out w9 hg gL gl7 (hrowne.out gL _ HB7.out (fun cs e => by injection e with _ e _; exact absurd e (by decide)))).trans HB7.out
            go_wp2_with fail
            go_region_law (refine (id ?_); rw [if_pos (by simp [Region.wanted])]; refine wp_append_lies _ (.tmp 48) (.tmp 50) 98 rfl b0 97 i0 (.agg #[.int .i64 0, .int .i64 0]) 2 16 Tryd.underlying98 hi hz0 hz1 hz2 rfl (by omega) (.slice A2 Q.length cap) Q.length (endsC Q) (by first | rfl | simp [Act.eval, Act.put]) HR8.out ⟨w7.heap.size, 0, none⟩ 1 1 [.int .i64 u, .int .i64 v] (by first | rfl | simp [Act.eval, Act.put]) rfl hnews hone (by omega) (by unfold maxLen; omega) (by omega) (by simp; omega) (w7.heap.size + 1) (by simp) ?_; intro g9 cp9 w9 hown9 hgrow9 hat9 hlt9; have z1 : w9.cell? ⟨gL, 1, none⟩ = some (.slice A2 Q.length cap) := (HB9.out w9 hgrow9).cell 1; have zf : w9.frozen? ⟨gL, 1, none⟩ = false := (HB9.out w9 hgrow9).frozen 1)
            all_goals (have P9 := push_end (e := e) (A := A) (n := n) (cc := c) rfl HB7.out HR7.out HM7.out hbL hbA HS7'.out HF7.out HX1.out hb7'.out hB hgrow9 hown9 hat9)
            all_goals (have HQ9 : Hid ((Q ++ [(u, v)])[a]? = some e) := (List.getElem?_append_left (List.getElem?_eq_some_iff.1 HQ.out).1).trans HQ.out)
            all_goals (rw [← aftF_grown l k Q a (j + 1) (u, v) (List.getElem?_eq_some_iff.1 HQ.out).1] at P9)
            all_goals obtain ⟨P1, P2, P3, P4, P5⟩ := P9
            all_goals (have HP1 := Lib.hid P1)
            all_goals (have HP2 := Lib.hid P2)
            all_goals (have HP3 := Lib.hid P3)
            all_goals (have HP5 := Lib.hid P5)
            all_goals clear P1 P2 P3 P5 hown9 hgrow9 z1 zf
            all_goals go_wp2_with fail
            all_goals go_roundw
            all_goals first
              | exact ⟨j + 1, Q ++ [(u, v)], by go_num, by omega, HA2, HP1, HQ9, HP2, HP3, P4, HP5⟩
              | (simp [intOf]; omega)
    · obtain rfl : j = k := by omega
      have HA2 := Lib.hid (HA.out.round HQ.out)
      go_wp2_with fail
      go_end0
      refine ⟨⟨_, rfl⟩, Q, ?_, HA2.out, hb⟩
      rw [← aftF_round HQ.out]
      obtain ⟨x1, x2, x3, x4⟩ := HL.out
      exact ⟨x1, x2.mono moveK (by omega), x3, x4⟩
end Go.Proofs.YtjecadpofkblnaaDoor
