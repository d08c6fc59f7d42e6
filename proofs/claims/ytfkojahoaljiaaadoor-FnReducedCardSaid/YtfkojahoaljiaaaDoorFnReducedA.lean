/- Collect Turn Wait DrawSystem MakeSystem LangPlain WordsPlain EndPlain LangEnds Lengthened EndOf MapOf Tally Language LanguageOf AddLonger Tells, one behind the other. -/
import Derived.Maps.AppendAt
import Derived.Test.YtfkojahoaljiaaaDoorNextStep
import Derived.Test.YtfkojahoaljiaaaDoorRules
import Derived.Test.YtfkojahoaljiaaaDoorWordSet
import Derived.Test.YtfkojahoaljiaaaDoorStrs
import Derived.ArgAppend
import Derived.Test.YtfkojahoaljiaaaDoorDraw
import Derived.Test.YtfkojahoaljiaaaDoorMakeWord
import Derived.Test.YtfkojahoaljiaaaDoorOrient
import Derived.Test.YtfkojahoaljiaaaDoorParseSystem
import Derived.Test.YtfkojahoaljiaaaDoorOrder
import Derived.Deep.Cut
import Derived.Deep.CutRange
import Derived.Deep.RegionHeld3
import Derived.Test.YtfkojahoaljiaaaDoorRulesOk
import Derived.Test.YtfkojahoaljiaaaDoorPlaces
import Derived.Test.YtfkojahoaljiaaaDoorKit
import Derived.Test.YtfkojahoaljiaaaDoorLetters
import Derived.Laws.Rows
import Derived.Test.YtfkojahoaljiaaaDoorHasRule
import Derived.Maps.RangeWalk
import Derived.Maps.OwnSet
import Derived.Maps.OwnOps
import Derived.DeepKeys4
import Derived.WideKeyEntry
import Derived.Lib.SmallJoins
import Derived.Test.YtfkojahoaljiaaaDoorSteps
import Derived.StillTailTactics
import Derived.Deep.AppendLies
import Derived.Deep.RegionLaw
import Derived.RangeFuncNested
import Derived.RangeFuncBound
import Derived.RangeFuncCalls
import Derived.RangeFuncLeaves
namespace Go.Proofs.YtfkojahoaljiaaaDoor
open Go.RowKit Go.Shelf
attribute [local go_sem] Oper.semAt_some

/-- A variable's box B holds a slice whose row lies beyond; behind an append and the store back. -/
theorem box_appended {W w1 : World} {base B : Nat} {t e : TypeId} {size : Nat} {v v' : Value} {k m : Nat} {xs ys : List Value} {tmp : Obj} {D : Nat → Prop} (hv : Blk W B t #[v]) (hB : B < base) (hb : base ≤ W.heap.size)
    (hrow : W.ownsRow base e size v k xs) (hown' : w1.ownsRow base e size v' m ys) (hgrow : (W.alloc tmp).grownBy w1 v.ownBlock) (hD : ∀ k, D k → k < base ∧ k ≠ B) :
    Blk w1 B t #[v] ∧ Blk (w1.setCell ⟨B, 0, none⟩ v') B t #[v'] ∧ (w1.setCell ⟨B, 0, none⟩ v').ownsRow base e size v' m ys ∧ KeepsOthers W (w1.setCell ⟨B, 0, none⟩ v') ∧ Keeps D W (w1.setCell ⟨B, 0, none⟩ v') ∧ Below B W (w1.setCell ⟨B, 0, none⟩ v') := by
  have hold : ∀ d, d < base → w1.heap[d]? = W.heap[d]? := fun d hd => grown_block hrow hgrow hd hb
  have hv1 : Blk w1 B t #[v] := (hold B hB).trans hv
  have hsz : W.heap.size ≤ w1.heap.size := by have := hgrow.size; simp at this; omega
  refine ⟨hv1, hv1.set_ 0 v', ?_, ?_, ⟨by simp [World.size_setCell]; omega, fun j hj => ?_⟩, ?_⟩
  · refine hown'.kept (grownBy_setCell' w1 B v') (.inr (fun e => ?_))
    have h1 := (hown'.lt B e).1
    omega
  · refine ((KeepsOthers.alloc W tmp).trans (KeepsOthers.of_grownBy hgrow fun j o ej hj => ?_)).trans (KeepsOthers.setCell _ _ _)
    rcases (hrow.alloc tmp).2 with ⟨rfl, _⟩ | ⟨g, cap, cur, rfl, _, hgb, _⟩
    · simp [Value.ownBlock] at ej
    · have e1 : g = j := by simpa [Value.ownBlock] using ej
      subst e1
      rw [hgb] at hj; injection hj with hj; rw [← hj]; rfl
  · obtain ⟨h1, h2⟩ := hD j hj
    exact (Below.heap_setCell w1 ⟨B, 0, none⟩ v' j (by simpa using h2)).trans (hold j h1)
  · have hb1 : Below B W w1 := ⟨hgrow.os.trans rfl, hgrow.tape.trans rfl, hgrow.output.trans rfl, hsz, fun j hj => hold j (by omega)⟩
    exact hb1.setCell (Nat.le_refl _) _
theorem row_kept {W W' : World} {row : Option Nat} {base : Nat} {e : TypeId} {size : Nat} {v : Value} {k : Nat} {xs : List Value} (h : W.ownsRow base e size v k xs) (hg : W.grownBy W' row) (hr : ∀ r, row = some r → ∃ o : Obj, W.heap[r]? = some o ∧ o.isCells = false) : W'.ownsRow base e size v k xs := by
  refine h.kept hg ?_
  rcases h.2 with ⟨rfl, _⟩ | ⟨g, cap, cur, rfl, _, hgb, _⟩
  · exact .inl rfl
  · refine .inr fun e' => ?_
    obtain ⟨o, ho, hc⟩ := hr g (by simpa [Value.ownBlock] using e'.symm)
    rw [hgb] at ho; cases ho; cases hc
theorem steps_bound (l : List R) (s : ByteArray) (d : Int) (hs : s.size ≤ 1048576) (hl : l.length ≤ 12) : (stepsD l s d).length ≤ 12582912 := by
  have h1 := rowsTo_len l s d s.size
  have h2 : s.size * l.length ≤ 1048576 * 12 := Nat.mul_le_mul hs hl
  unfold stepsD
  omega

theorem stepsOf_bound (k : Int) (l : List R) (s : ByteArray) (hs : s.size ≤ 1048576) : (stepsOf k l s).length ≤ 5726623060 := by
  unfold stepsOf
  split
  · rename_i hk
    exact Nat.le_trans (steps_bound l s 0 hs (rulesOk_len hk)) (by omega)
  · simp
end Go.Proofs.YtfkojahoaljiaaaDoor

namespace Go.Proofs.YtfkojahoaljiaaaDoor
open Go.RowKit

/-- All blocks of W but those of S lie as they lay. -/
structure Turn (S : List Nat) (W W' : World) : Prop where
  os : W'.os = W.os
  tape : W'.tape = W.tape
  output : W'.output = W.output
  size : W.heap.size ≤ W'.heap.size
  block : ∀ k, k < W.heap.size → k ∉ S → W'.heap[k]? = W.heap[k]?
theorem Turn.refl (S : List Nat) (W : World) : Turn S W W := ⟨rfl, rfl, rfl, Nat.le_refl _, fun _ _ _ => rfl⟩
theorem Turn.trans {S : List Nat} {X Y Z : World} (h : Turn S X Y) (k : Turn S Y Z) : Turn S X Z :=
  ⟨k.os.trans h.os, k.tape.trans h.tape, k.output.trans h.output, Nat.le_trans h.size k.size, fun i hi hn => (k.block i (Nat.lt_of_lt_of_le hi h.size) hn).trans (h.block i hi hn)⟩
theorem turn_below {S : List Nat} {W W' : World} (h : Below W.heap.size W W') : Turn S W W' := ⟨h.os, h.tape, h.output, h.size, fun k hk _ => h.block k hk⟩
theorem turn_grown {S : List Nat} {W W' : World} {b : Nat} (h : W.grownBy W' (some b)) (hb : b ∈ S) : Turn S W W' := ⟨h.os, h.tape, h.output, h.size, fun k hk hn => h.block k hk (fun e => hn (by injection e with e; rw [e]; exact hb))⟩
theorem turn_set {S : List Nat} (W : World) (b o : Nat) (u : Value) (hb : b ∈ S) : Turn S W (W.setCell ⟨b, o, none⟩ u) :=
  ⟨rfl, rfl, rfl, by simp [World.size_setCell], fun k _ hn => Below.heap_setCell W ⟨b, o, none⟩ u k (fun e => hn (by rw [e]; exact hb))⟩
theorem Turn.blk {S : List Nat} {W W' : World} (h : Turn S W W') {g : Nat} {t : TypeId} {cs : Array Value} (hb : Blk W g t cs) (hn : g ∉ S) : Blk W' g t cs := (h.block g hb.lt hn).trans hb
theorem Turn.obj {S : List Nat} {W W' : World} (h : Turn S W W') {g : Nat} {o : Obj} (hb : W.heap[g]? = some o) (hn : g ∉ S) : W'.heap[g]? = some o := (h.block g (Array.getElem?_eq_some_iff.1 hb).1 hn).trans hb
theorem Turn.below {S : List Nat} {W W' : World} (h : Turn S W W') {B : Nat} (hS : ∀ b ∈ S, B ≤ b) (hB : B ≤ W.heap.size) : Below B W W' :=
  ⟨h.os, h.tape, h.output, h.size, fun k hk => h.block k (by omega) (fun hm => by have := hS k hm; omega)⟩
theorem Turn.mono {S S' : List Nat} {W W' : World} (h : Turn S W W') (hs : ∀ b ∈ S, b ∈ S') : Turn S' W W' := ⟨h.os, h.tape, h.output, h.size, fun k hk hn => h.block k hk (fun hm => hn (hs k hm))⟩
end Go.Proofs.YtfkojahoaljiaaaDoor

namespace Go.Proofs.YtfkojahoaljiaaaDoor
open Go.RowKit Go.Shelf

theorem Turn.setM {S : List Nat} {W W' : World} (h : Turn S W W') {b : Nat} {Q : List ByteArray} (hb : SetM W b Q) (hn : b ∉ S) : SetM W' b Q := by
  obtain ⟨D, h1, h2⟩ := hb
  have hlt := h1.lt
  obtain ⟨es, clock, hb, r⟩ := h1
  exact ⟨D, ⟨es, clock, (h.block b hlt hn).trans hb, r⟩, h2⟩
theorem Turn.keepsFrom {S : List Nat} {W W' : World} (h : Turn S W W') {B : Nat} (hS : ∀ b ∈ S, b < B ∨ ∃ cs t f, W.heap[b]? = some (.cells cs t f)) : KeepsFrom B W W' :=
  ⟨h.size, fun k o hB hk ho => (h.block k (Array.getElem?_eq_some_iff.1 hk).1 (fun hm => by
    rcases hS k hm with h1 | ⟨cs, t, f, h2⟩
    · omega
    · rw [h2] at hk; cases hk; cases ho)).trans hk⟩
theorem Turn.keeps {S : List Nat} {W W' : World} (h : Turn S W W') {D : Nat → Prop} (hD : ∀ k, D k → k < W.heap.size ∧ k ∉ S) : Keeps D W W' := ⟨h.size, fun k hk => h.block k (hD k hk).1 (hD k hk).2⟩

/-- v holds the words of Q, in block g; what lies behind them may be written. -/
def Wait (W : World) (g : Nat) (v : Value) (Q : List ByteArray) : Prop :=
  ∃ off c cur, v = .slice (some ⟨g, off, none⟩) Q.length c ∧ Q.length ≤ c ∧ c ≤ maxLen ∧ W.heap[g]? = some (.cells cur 9 (0, 0)) ∧ off + c ≤ cur.size ∧ ∀ j y, Q[j]? = some y → cur[off + j]? = some (.string y)
theorem Wait.lt {W : World} {g : Nat} {v : Value} {Q : List ByteArray} (h : Wait W g v Q) : g < W.heap.size := by
  obtain ⟨off, c, cur, _, _, _, hg, _⟩ := h
  exact (Array.getElem?_eq_some_iff.1 hg).1
theorem Wait.turn {S : List Nat} {W W' : World} {g : Nat} {v : Value} {Q : List ByteArray} (h : Wait W g v Q) (ht : Turn S W W') (hn : g ∉ S) : Wait W' g v Q := by
  obtain ⟨off, c, cur, h1, h2, h3, hg, h4⟩ := h
  exact ⟨off, c, cur, h1, h2, h3, ht.obj hg hn, h4⟩
theorem Wait.apart {W : World} {g b : Nat} {v : Value} {Q : List ByteArray} {t : TypeId} {cs : Array Value} (h : Wait W g v Q) (hb : Blk W b t cs) (ht : t ≠ 9) : g ≠ b := by
  obtain ⟨off, c, cur, _, _, _, hg, _⟩ := h
  intro e
  subst e
  unfold Blk at hb
  rw [hg] at hb
  injection hb with hb
  injection hb with _ h _
  exact ht h.symm
theorem wait_kept {W W' : World} {row : Option Nat} {g : Nat} {v : Value} {Q : List ByteArray} (h : Wait W g v Q) (hg : W.grownBy W' row) (hr : ∀ r, row = some r → ∃ o : Obj, W.heap[r]? = some o ∧ o.isCells = false) : Wait W' g v Q := by
  have hlt := h.lt
  obtain ⟨off, c, cur, h1, h2, h3, h4, h5⟩ := h
  exact ⟨off, c, cur, h1, h2, h3, (hg.block g hlt (fun e => by obtain ⟨o, ho, hc⟩ := hr g e.symm; rw [h4] at ho; cases ho; cases hc)).trans h4, h5⟩
theorem slice_rest (g off m c : Nat) : ∃ o, (c = 1 ∧ o = off ∨ o = off + 1) ∧ ∀ W : World, (Instr.slice 28 (.slice (some ⟨g, off, none⟩) (m + 1) c) (some (.int .i64 1)) none none).run Tryd.prog W = .ok (.slice (some ⟨g, o, none⟩) m (c - 1)) W := by
  have hr : ∀ W : World, (Instr.slice 28 (.slice (some ⟨g, off, none⟩) (m + 1) c) (some (.int .i64 1)) none none).run Tryd.prog W = .ok (sliced (some ⟨g, off, none⟩) 1 (m + 1) c 1) W := fun W => by
    rw [run_slice_l W 28 (some ⟨g, off, none⟩) (m + 1) c (by kernel_rfl) .i64 1 (by omega) (by omega), show (sizeOf (Tryd.prog.elem 28)).run Tryd.prog W = .ok 1 W from by kernel_rfl]; rfl
  by_cases hc : c = 1
  · refine ⟨off, .inl ⟨hc, rfl⟩, fun W => ?_⟩
    rw [hr, sliced, if_pos hc]; rfl
  · refine ⟨off + 1, .inr rfl, fun W => ?_⟩
    rw [hr, sliced, if_neg hc]; rfl
/-- The first word, and what is left. -/
theorem Wait.head {W : World} {g : Nat} {v : Value} {y : ByteArray} {Q : List ByteArray} (h : Wait W g v (y :: Q)) :
    ∃ off c m, Q.length = m ∧ v = .slice (some ⟨g, off, none⟩) (m + 1) c ∧ m + 1 ≤ c ∧ c ≤ maxLen ∧ W.cell? ⟨g, off, none⟩ = some (.string y) ∧ ∃ o, (∀ W : World, (Instr.slice 28 (.slice (some ⟨g, off, none⟩) (m + 1) c) (some (.int .i64 1)) none none).run Tryd.prog W = .ok (.slice (some ⟨g, o, none⟩) m (c - 1)) W) ∧ Wait W g (.slice (some ⟨g, o, none⟩) m (c - 1)) Q := by
  obtain ⟨off, c, cur, h1, h2, h3, hg, h4, h5⟩ := h
  rw [List.length_cons] at h1 h2
  obtain ⟨o, ho, hr⟩ := slice_rest g off Q.length c
  refine ⟨off, c, Q.length, rfl, h1, h2, h3, ?_, o, hr, o, c - 1, cur, rfl, by omega, by omega, hg, ?_, fun j z hj => ?_⟩
  · rw [cell_of_row _ _ _ _ _ _ hg]; exact h5 0 y rfl
  · rcases ho with ⟨_, _⟩ | _ <;> omega
  · rcases ho with ⟨ho, _⟩ | rfl
    · have := (List.getElem?_eq_some_iff.1 hj).1
      omega
    · have := h5 (j + 1) z hj
      rwa [show off + (j + 1) = off + 1 + j by omega] at this
theorem Wait.ofRow {W : World} {b g c : Nat} {Q : List ByteArray} (h : W.ownsRow b 9 1 (.slice (some ⟨g, 0, none⟩) Q.length c) Q.length (strs Q)) : Wait W g (.slice (some ⟨g, 0, none⟩) Q.length c) Q := by
  rcases h.2 with ⟨h, _⟩ | ⟨g', cap, cur, e, _, hg, h1, h2, h3, h4⟩
  · injection h with h; cases h
  · injection e with e1 e2 e3
    injection e1 with e1
    injection e1 with e1 _ _
    subst e1; subst e3
    refine ⟨0, c, cur, rfl, h1, h2, hg, by omega, fun j y hj => ?_⟩
    have hjl := (List.getElem?_eq_some_iff.1 hj).1
    have h5 : (strs Q)[j]? = some (.string y) := by simp [strs, hj]
    rw [← h4, List.getElem?_take_of_lt (by omega)] at h5
    rw [Nat.zero_add]; simpa using h5
theorem setCells_one (W : World) (b o : Nat) (u : Value) : W.setCells b o [u] = W.setCell ⟨b, o, none⟩ u := rfl
/-- A word more at the end. -/
theorem Wait.append {W : World} {g : Nat} {v : Value} {Q : List ByteArray} (h : Wait W g v Q) (ty : TypeId) (y : ByteArray) (hl : Q.length + 1 ≤ 87381) {ad : Addr} (had : W.cell? ad = some (.string y)) :
    ∃ v' w' g', (Builtin.append_ #[28, 28] ty #[v, .slice (some ad) 1 1]).run Tryd.prog W = .ok v' w' ∧ Wait w' g' v' (Q ++ [y]) ∧ Turn [g] W w' ∧ (g' = g ∨ W.heap.size ≤ g') := by
  obtain ⟨i0, hi, hz0, hz1, hz2⟩ := info_parts infoStr
  obtain ⟨off, c, cur, rfl, h2, h3, hg, h4, h5⟩ := h
  have hnews : ∀ j u, ([Value.string y] : List Value)[j]? = some u → W.cell? (ad.add j) = some u := by
    intro j u hj
    match j, hj with
    | 0, hj => simp at hj; subst hj; rw [Addr.add_zero']; exact had
  by_cases hroom : Q.length + 1 ≤ c
  · have hlt : off + Q.length < cur.size := by omega
    have hc1 : W.cell? ⟨g, off + Q.length, none⟩ = some cur[off + Q.length] := by rw [cell_of_row _ _ _ _ _ _ hg, Array.getElem?_eq_getElem hlt]
    have hrun := run_append_room_cells (P := Tryd.prog) W 28 ty 9 i0 Tryd.underlying28 hi g off Q.length c ad 1 1 [.string y] (by simp [hz1]) hnews (by intro u hu; simp at hu; subst hu; rfl) hroom
      (fun j hj => by have : j = 0 := by simpa using hj
                      subst this; rw [hz1, Nat.mul_one, Nat.add_zero, hc1]; rfl)
      (fun j hj => by simp [World.frozen?, hg])
    rw [hz1, Nat.mul_one, setCells_one] at hrun
    refine ⟨_, _, g, hrun, ⟨off, c, cur.setIfInBounds (off + Q.length) (.string y), by rw [List.length_append]; rfl, by rw [List.length_append]; exact hroom, h3, ?_, by simpa using h4, fun j z hj => ?_⟩, turn_set W g _ _ (List.mem_singleton.2 rfl), .inl rfl⟩
    · exact (Blk.set_ (show Blk W g 9 cur from hg) (off + Q.length) (.string y))
    · by_cases hjq : j < Q.length
      · rw [List.getElem?_append_left hjq] at hj
        rw [Array.getElem?_setIfInBounds_ne (by omega)]
        exact h5 j z hj
      · have hj' : j = Q.length := by
          have := (List.getElem?_eq_some_iff.1 hj).1
          simp at this; omega
        subst hj'
        rw [List.getElem?_append_right (Nat.le_refl _), Nat.sub_self] at hj
        simp at hj
        subst hj
        rw [Array.getElem?_setIfInBounds_self_of_lt hlt]
  · obtain ⟨v', w', hrun, hown, hgr⟩ := run_append_arg_grows (P := Tryd.prog) W 28 ty 9 i0 (.string ⟨#[]⟩) 1 16 Tryd.underlying28 hi hz0 hz1 hz2 rfl (by decide) ⟨g, off, none⟩ Q.length c (strs Q) (by rw [strs_length]; omega)
      (fun j u hj => by
        have hjl := (List.getElem?_eq_some_iff.1 hj).1
        rw [strs_length] at hjl
        have e : u = .string Q[j] := by
          have h6 : (strs Q)[j]? = some (.string Q[j]) := by simp [strs, hjl]
          rw [h6] at hj; exact (Option.some.inj hj).symm
        rw [e, show (⟨g, off, none⟩ : Addr).add j = ⟨g, off + j, none⟩ by simp [Addr.add], cell_of_row _ _ _ _ _ _ hg]
        exact h5 j _ (List.getElem?_eq_getElem hjl))
      ad 1 1 [.string y] (by simp) hnews (by omega) (by unfold maxLen; omega) (by omega)
    have hown2 : w'.ownsRow W.heap.size 9 1 v' (Q ++ [y]).length (strs (Q ++ [y])) := by
      rw [List.length_append]
      have e : strs (Q ++ [y]) = strs Q ++ [Value.string y] := by simp [strs]
      rw [e]; exact hown
    rcases hown2.2 with ⟨h, h0⟩ | ⟨g', cap, cur', e, hb, _⟩
    · simp at h0
    · subst e
      exact ⟨_, w', g', hrun, Wait.ofRow hown2, ⟨hgr.os, hgr.tape, hgr.output, hgr.size, fun k hk _ => hgr.block k hk (by simp)⟩, .inr hb⟩

theorem wpListIn_append_wait {F : Fence} {n : Nat} (w : World) {ops : Array Oper} {rest : List Oper} {o : Oper} {a : Act} {Q : Exit → Act → World → Prop} (hgd : o.guard = none) (s x : Operand) (hop : o.op = Op.call { callee := Callee.builtin Builtin.append, args := #[s, x], argTypes := #[28, 28] })
    {g : Nat} {v : Value} {ws : List ByteArray} {y : ByteArray} {ad : Addr} (hq : Wait w g v ws) (hl : ws.length + 1 ≤ 87381) (hs : a.eval s = v) (hx : a.eval x = .slice (some ad) 1 1) (had : w.cell? ad = some (.string y))
    (hK : ∀ v' w' g', Wait w' g' v' (ws ++ [y]) → Turn [g] w w' → (g' = g ∨ w.heap.size ≤ g') → wpListIn F n Tryd.prog ops Q rest (a.put o.dst v') w') :
    wpListIn F n Tryd.prog ops Q (o :: rest) a w := by
  refine wpListIn_plain hgd fun K hK' => ?_
  obtain ⟨v', w', g', hrun, r1, r2, r3⟩ := hq.append o.type y hl had
  unfold Oper.wpIn
  refine ⟨?_, ?_⟩
  · simp [Oper.about, hop, resolve, Target.leads, Sem.run_pure]
  · rw [Oper.semAt_plain F _ _ (by rw [hop]; intro c hc'; cases hc')]
    simp [execOp, hop, resolve, invoke, builtin, hs, hx, hrun, Result.andThen]
    exact hK' _ _ (hK v' w' g' r1 r2 r3)

/-- A function that has ranged over functions leaves: its marks, one by one. -/
def markD (D : Nat) : Deferred := { target := .collected D, args := #[] }
theorem leaves_marks {F : Fence} {n : Nat} {P : Program} {fn : Func} {tmps : Array Value} {R : Ending → World → Prop} {v : Value} {B : Nat} (hres : ∀ w, (results fn tmps).run P w = .ok v w) :
    ∀ (Ds : List Nat) (w : World), Ds.Nodup → B ≤ w.heap.size → (∀ D ∈ Ds, B ≤ D ∧ w.heap[D]? = some (.deferred (some []))) → (∀ w', Below B w w' → R (.returned v) w') → LeavesInM F n P fn tmps R (Ds.map markD) .returning w
  | [], w, _, _, _, hR => ⟨v, hres w, hR w (Below.refl _ _)⟩
  | D :: Ds, w, hd, hB, hm, hR => by
    obtain ⟨h1, h2⟩ := hm D (List.mem_cons_self ..)
    have hd' := List.nodup_cons.1 hd
    refine ⟨by simp, .inl ⟨D, _, rfl, run_takeDeferred h2, ?_⟩⟩
    have hlt := (Array.getElem?_eq_some_iff.1 h2).1
    have hbel : Below B w (w.putObj D (.deferred none)) := (Below.refl B w).grown (grownBy_putObj' w D _) hB (fun k e => by cases e; exact h1)
    refine leaves_marks hres Ds _ hd'.2 (Nat.le_trans hB hbel.size) (fun E hE => ?_) (fun w' hw => hR w' (hbel.trans hw))
    obtain ⟨h3, h4⟩ := hm E (List.mem_cons_of_mem _ hE)
    exact ⟨h3, (World.putObj_heap_other (fun e => hd'.1 (by rw [e] at hE; exact hE))).trans h4⟩
end Go.Proofs.YtfkojahoaljiaaaDoor

namespace Go.Proofs.YtfkojahoaljiaaaDoor
open Go.RowKit Go.Joins

theorem Turn.then_below {S : List Nat} {W X Y : World} (h : Turn S W X) {B : Nat} (hb : Below B X Y) (hB : W.heap.size ≤ B) : Turn S W Y :=
  ⟨hb.os.trans h.os, hb.tape.trans h.tape, hb.output.trans h.output, Nat.le_trans h.size hb.size, fun k hk hn => (hb.block k (by omega)).trans (h.block k hk hn)⟩
theorem Turn.then_set {S : List Nat} {W X : World} (h : Turn S W X) {b : Nat} (o : Nat) (u : Value) (hb : W.heap.size ≤ b) : Turn S W (X.setCell ⟨b, o, none⟩ u) :=
  ⟨h.os, h.tape, h.output, by rw [World.size_setCell]; exact h.size, fun k hk hn => (Below.heap_setCell X ⟨b, o, none⟩ u k (by show k ≠ b; omega)).trans (h.block k hk hn)⟩
theorem Turn.grown {b : Nat} {W W' : World} (h : Turn [b] W W') : W.grownBy W' (some b) := ⟨h.os, h.tape, h.output, h.size, fun k hk hn => h.block k hk (fun e => hn (by rw [List.mem_singleton.1 e]))⟩
theorem grown_turn {b : Nat} {W W' : World} (h : W.grownBy W' (some b)) : Turn [b] W W' := turn_grown h (List.mem_singleton.2 rfl)
theorem Turn.cur {g : Nat} {W X : World} {b : Nat} {t : TypeId} {cs : Array Value} (h : Turn [g] W X) (hb : Blk W b t cs) (hn : b ≠ g) : Blk X b t cs := h.blk hb (fun e => hn (List.mem_singleton.1 e))
theorem Turn.row {g base size k : Nat} {e : TypeId} {v : Value} {xs : List Value} {W X : World} (h : Turn [g] W X) (hs : g < base) (hr : W.ownsRow base e size v k xs) : X.ownsRow base e size v k xs :=
  hr.kept h.grown (.inr (fun e => by have h1 := (hr.lt g e).1; omega))
theorem ds_alloc {sb g : Nat} {kk : Int} {A : Option Addr} {n c : Nat} {wr X : World} (h : X.cell? ⟨sb, 0, none⟩ = some (.int .i64 kk) ∧ Cur X g A n c ∧ Turn [g] wr X) (hsb : sb < wr.heap.size) (o : Obj) :
    (X.alloc o).cell? ⟨sb, 0, none⟩ = some (.int .i64 kk) ∧ Cur (X.alloc o) g A n c ∧ Turn [g] wr (X.alloc o) :=
  ⟨((bel1 X o).cell (by show sb < _; have := h.2.2.size; omega)).trans h.1, h.2.1.below (bel1 X o), h.2.2.then_below (bel1 X o) h.2.2.size⟩
theorem ds_below {sb g : Nat} {kk : Int} {A : Option Addr} {n c : Nat} {wr X Y : World} (h : X.cell? ⟨sb, 0, none⟩ = some (.int .i64 kk) ∧ Cur X g A n c ∧ Turn [g] wr X) (hsb : sb < wr.heap.size) (hb : Below X.heap.size X Y) :
    Y.cell? ⟨sb, 0, none⟩ = some (.int .i64 kk) ∧ Cur Y g A n c ∧ Turn [g] wr Y :=
  ⟨(hb.cell (by show sb < _; have := h.2.2.size; omega)).trans h.1, h.2.1.below hb, h.2.2.then_below hb h.2.2.size⟩
theorem ds_grown {sb g : Nat} {kk : Int} {A : Option Addr} {n c : Nat} {wr X Y : World} (h : X.cell? ⟨sb, 0, none⟩ = some (.int .i64 kk) ∧ Cur X g A n c ∧ Turn [g] wr X) (hsb : sb < wr.heap.size) (hne : sb ≠ g) (hC : Cur Y g A n c) (hG : X.grownBy Y (some g)) :
    Y.cell? ⟨sb, 0, none⟩ = some (.int .i64 kk) ∧ Cur Y g A n c ∧ Turn [g] wr Y :=
  ⟨(World.cell?_of_block (w := X) (a := ⟨sb, 0, none⟩) (hG.block sb (by have := h.2.2.size; omega) (fun e => hne (by injection e)))).trans h.1, hC, h.2.2.trans (grown_turn hG)⟩
theorem ds_set {sb g : Nat} {kk : Int} {A : Option Addr} {n c : Nat} {wr X : World} (h : X.cell? ⟨sb, 0, none⟩ = some (.int .i64 kk) ∧ Cur X g A n c ∧ Turn [g] wr X) (hsb : sb < wr.heap.size) (hg : g < wr.heap.size) {b : Nat} (o : Nat) (u : Value) (hb : wr.heap.size ≤ b) :
    (X.setCell ⟨b, o, none⟩ u).cell? ⟨sb, 0, none⟩ = some (.int .i64 kk) ∧ Cur (X.setCell ⟨b, o, none⟩ u) g A n c ∧ Turn [g] wr (X.setCell ⟨b, o, none⟩ u) :=
  ⟨(World.cell?_of_block (w := X) (a := ⟨sb, 0, none⟩) (Below.heap_setCell X ⟨b, o, none⟩ u sb (by show sb ≠ b; omega))).trans h.1, h.2.1.keep (fun j hj => Below.heap_setCell _ _ _ j (by show j ≠ b; omega)), h.2.2.then_set o u hb⟩
theorem new_grown {g : Nat} {X Y : World} {t : TypeId} {cs : Array Value} (h : (X.alloc (.cells cs t)).grownBy Y (some g)) (hg : g < X.heap.size) : Blk Y X.heap.size t cs :=
  (grown_turn h).cur (Blk.new1 X cs t) (by omega)
theorem new_grown_drew {g : Nat} {X Y : World} {t : TypeId} {cs : Array Value} (h : (X.drew.alloc (.cells cs t)).grownBy Y (some g)) (hg : g < X.heap.size) : Blk Y X.heap.size t cs := new_grown (X := X.drew) h hg
theorem new_below {X Y : World} {t : TypeId} {cs : Array Value} (h : Below (X.alloc (.cells cs t)).heap.size (X.alloc (.cells cs t)) Y) : Blk Y X.heap.size t cs := (Blk.new1 X cs t).below h (by simp)

set_option maxHeartbeats 400000 in
theorem l01Once_any (g : Nat) (A : Option Addr) (n c N : Nat) (w : World) (h : Cur w g A n c) (h0 : 0 < N) (h1 : N ≤ 256) :
    Calls Tryd.prog 31 #[.pointer (some ⟨g, 0, none⟩), .int .i64 N] w fun e w' => ∃ b, e = .returned (.bool b) ∧ Cur w' g A n c ∧ w.grownBy w' (some g) := by
  go_enter Tryd.func31, Tryd.ntmps31
  go_wp2_with fail
  refine (l01Below_small g A n c N _ h h0 h1).mono ?_
  rintro e w1 ⟨r, rfl, -, hC, hG⟩
  have HC := Lib.hid hC
  have HG := Lib.hid hG
  clear hC hG
  go_wp2_with fail
  go_ret
  exact ⟨_, rfl, HC.out, HG.out⟩

theorem less_pos {u v : ByteArray} (h : lessS u v = true) : 0 < v.size := by
  rcases Nat.eq_zero_or_pos v.size with h0 | h0
  · have h1 := lessS_size h
    have e : u = v := by rw [ByteArray.size_eq_zero_iff.1 h0, ByteArray.size_eq_zero_iff.1 (by omega : u.size = 0)]
    rw [e, lessS_irrefl] at h; cases h
  · exact h0
theorem orient_good {k : Int} {u v : ByteArray} (h : canOrient k (u, v) = true) : ruleOk k (orientOf k (u, v)) = true ∧ ordered (orientOf k (u, v)) = true := by
  have h' := h
  simp only [canOrient, Bool.and_eq_true, Bool.not_eq_true', decide_eq_false_iff_not] at h'
  obtain ⟨h1, h2⟩ := h'
  rw [orientOf, if_pos h, oriented]
  cases hl : lessS u v
  · have h3 : lessS v u = true := by
      cases h4 : lessS v u
      · exact absurd (lessS_total u v hl h4) h2
      · rfl
    rw [if_neg (by simp)]
    refine ⟨?_, h3⟩
    rw [ruleOk, h1, decide_eq_true (less_pos h3)]; rfl
  · rw [if_pos rfl]
    refine ⟨?_, hl⟩
    rw [sidesOk_eq, Bool.and_comm, ← sidesOk_eq] at h1
    rw [ruleOk, h1, decide_eq_true (less_pos hl)]; rfl

def words11 : List ByteArray := [⟨#[49, 32, 97, 97, 97, 62, 46]⟩, ⟨#[50, 32, 97, 97, 62, 46, 32, 98, 98, 62, 46, 32, 98, 97, 62, 97, 98]⟩, ⟨#[50, 32, 97, 97, 62, 46, 32, 98, 98, 62, 46, 32, 98, 97, 98, 62, 97, 98, 97]⟩, ⟨#[50, 32, 98, 97, 62, 97, 98]⟩, ⟨#[50, 32, 97, 98, 62, 46]⟩, ⟨#[50, 32, 97, 97, 62, 97, 32, 98, 98, 62, 98]⟩, ⟨#[50, 32, 97, 97, 62, 46, 32, 98, 98, 98, 62, 46, 32, 97, 98, 98, 62, 98, 97, 32, 97, 98, 97, 62, 98, 98, 32, 98, 97, 98, 62, 97, 32, 98, 98, 97, 62, 97, 98]⟩, ⟨#[49, 32, 97, 97, 97, 97, 62, 97, 97]⟩, ⟨#[50, 32, 97, 97, 62, 98]⟩, ⟨#[50, 32, 98, 97, 62, 97, 98, 32, 98, 98, 62, 98]⟩, ⟨#[51, 32, 98, 97, 62, 97, 98, 32, 99, 97, 62, 97, 99, 32, 99, 98, 62, 98, 99]⟩]
theorem words11_size (x : ByteArray) (h : x ∈ words11) : x.size ≤ 64 := by
  simp only [words11, List.mem_cons, List.not_mem_nil, or_false] at h
  rcases h with rfl | rfl | rfl | rfl | rfl | rfl | rfl | rfl | rfl | rfl | rfl <;> decide
theorem sysOf_ok (n : Int) (b : Bool) (rest : List ByteArray) (h : (sysOf n b rest).2.2 = true) : smallR (sysOf n b rest).2.1 := by
  unfold sysOf at h ⊢
  split at h
  · rename_i hk
    rw [if_pos hk]
    simp only [Bool.and_eq_true] at hk
    intro r hr
    have := rulesOk_mem hk.2 hr
    omega
  · cases h

def SysDraw (W : World) (g : Nat) (e : Ending) (w' : World) : Prop :=
  ∃ k l v, e = .returned (.agg #[.int .i64 k, v]) ∧ Own W.heap.size w' v 2 l.length (rulesC l) ∧ systemOk k l = true ∧ W.grownBy w' (some g)

set_option maxRecDepth 100000 in
set_option maxHeartbeats 16000000 in
theorem l03Draw_any (g : Nat) (A : Option Addr) (n c : Nat) (w : World) (h : Cur w g A n c) :
    Calls Tryd.prog 17 #[.pointer (some ⟨g, 0, none⟩)] w (SysDraw w g) := by
  obtain ⟨i0, hi, hz0, hz1, hz2⟩ := infoR_parts infoRule
  have hgl := h.lt
  have H1 := Lib.hid (h.below (bel2 w (.cells #[.int .i64 0, .slice none 0 0] 25) (.cells #[.int .i64 2, .slice none 0 0] 25)))
  clear h
  go_enter Tryd.func17, Tryd.ntmps17
  go_wp2_with fail
  refine (l01Once_any g A n c 3 _ H1.out (by omega) (by omega)).mono ?_
  rintro e w1 ⟨b1, rfl, hC1, hG1⟩
  have HT1 := Lib.hid ((turn_below (S := [g]) (bel2 w (.cells #[.int .i64 0, .slice none 0 0] 25) (.cells #[.int .i64 2, .slice none 0 0] 25))).trans (grown_turn hG1))
  have HC1 := Lib.hid hC1
  have HR1 := Lib.hid ((grown_turn hG1).cur ((Blk.new1 w #[.int .i64 0, .slice none 0 0] 25).alloc (.cells #[.int .i64 2, .slice none 0 0] 25)) (by omega))
  have HS1 := Lib.hid ((grown_turn hG1).cur (Blk.new2 w (.cells #[.int .i64 0, .slice none 0 0] 25) #[.int .i64 2, .slice none 0 0] 25) (by omega))
  clear hC1 hG1 H1
  go_upto_if 11 with fail
  go_cut [] from 12 (fun wx => ∃ kk : Nat, 1 ≤ kk ∧ kk ≤ 3 ∧ Hid (Blk wx (w.heap.size + 1) 25 #[.int .i64 kk, .slice none 0 0]) ∧ Hid (Blk wx w.heap.size 25 #[.int .i64 0, .slice none 0 0]) ∧ Hid (Cur wx g A n c) ∧ Hid (Turn [g] w wx))
  case first =>
    cases b1
    · go_wp2_with fail
      go_meet
      exact ⟨2, by omega, by omega, HS1, HR1, HC1, HT1⟩
    · obtain ⟨s0, s1, g0, g1, sl⟩ := HS1.out.two
      go_wp2_with fail
      refine (l01Below_small g A n c 3 _ HC1.out (by omega) (by omega)).mono ?_
      rintro e w2 ⟨r, rfl, hr, hC2, hG2⟩
      have HS2 := Lib.hid ((grown_turn hG2).cur HS1.out (by omega))
      have HR2 := Lib.hid ((grown_turn hG2).cur HR1.out (by omega))
      have HC2 := Lib.hid hC2
      have HT2 := Lib.hid (HT1.out.trans (grown_turn hG2))
      clear s0 s1 g0 g1 sl hC2 hG2
      obtain ⟨s0, s1, g0, g1, sl⟩ := HS2.out.two
      go_wp2_with fail
      go_meet
      refine ⟨1 + r, by omega, by omega, ?_, Lib.hid (HR2.out.far (p := ⟨w.heap.size + 1, 0, none⟩) (by simp) _), ?_, Lib.hid (HT2.out.then_set 0 _ (by omega))⟩
      · show Blk _ _ _ _
        rw [show ((1 + r : Nat) : Int) = 1 + (r : Int) by omega]
        exact HS2.out.set_ 0 (.int .i64 (1 + (r : Int)))
      · show Cur _ _ _ _ _
        exact HC2.out.keep (fun j hj => Below.heap_setCell _ _ _ j (by show j ≠ w.heap.size + 1; omega))
  case rest =>
    obtain ⟨kk, hk1, hk3, HS, HR, HC, HT⟩ := hcut
    clear HS1 HR1 HC1 HT1
    go_wp2_with fail
    refine (l01Once_any g A n c 2 _ HC.out (by omega) (by omega)).mono ?_
    rintro e w3 ⟨b2, rfl, hC3, hG3⟩
    have HS3 := Lib.hid ((grown_turn hG3).cur HS.out (by omega))
    have HR3 := Lib.hid ((grown_turn hG3).cur HR.out (by omega))
    have HC3 := Lib.hid hC3
    have HT3 := Lib.hid (HT.out.trans (grown_turn hG3))
    clear HS HR HC HT hC3 hG3
    go_upto_if 17 with fail
    go_cut [] from 18 (fun wx => Hid (Blk wx (w.heap.size + 1) 25 #[.int .i64 kk, .slice none 0 0]) ∧ Hid (Blk wx w.heap.size 25 #[.int .i64 0, .slice none 0 0]) ∧ Hid (Cur wx g A n c) ∧ Hid (Turn [g] w wx))
    case first =>
      cases b2
      · go_wp2_with fail
        go_meet
        exact ⟨HS3, HR3, HC3, HT3⟩
      · go_wp2_with fail
        have HC4 := Lib.hid (HC3.out.below (bel1 w3 (.cells (strs words11).toArray 9)))
        have hgl3 := HC3.out.lt
        refine (l01Str_any g A n c w3.heap.size 11 words11 (w3.alloc (.cells (strs words11).toArray 9)) HC4.out (by omega) (heap_alloc_new w3 _) rfl (by omega) (by omega)).mono ?_
        rintro e w5 ⟨x, rfl, hx, hC5, hG5⟩
        have hx64 := words11_size x hx
        have hTa := (turn_below (S := [g]) (bel1 w3 (.cells (strs words11).toArray 9))).trans (grown_turn hG5)
        have HS5 := Lib.hid (hTa.cur HS3.out (by omega))
        have HR5 := Lib.hid (hTa.cur HR3.out (by omega))
        have HC5 := Lib.hid hC5
        have HT5 := Lib.hid (HT3.out.trans hTa)
        clear hC5 hG5 hTa hx HC4 HS3 HR3 HC3 HT3
        go_wp2_with fail
        refine (specParseSystem x _ (by omega)).mono ?_
        rintro e w6 ⟨p, rest, nn, bb, v, -, -, rfl, hO6, hb6⟩
        have hsm := sysOf_ok nn bb rest
        generalize sysOf nn bb rest = so at *
        obtain ⟨nk, ll, ok⟩ := so
        dsimp only at *
        obtain ⟨A6, c6, rfl⟩ := hO6.form
        have hw5 := HT5.out.size
        have HS6 := Lib.hid (HS5.out.below hb6 HS5.out.lt)
        have HR6 := Lib.hid (HR5.out.below hb6 HR5.out.lt)
        have HC6 := Lib.hid (HC5.out.below hb6)
        have HT6 := Lib.hid (HT5.out.then_below hb6 hw5)
        have HO6 := Lib.hid hO6
        have hw5l := HR5.out.lt
        clear hb6 hO6 HS5 HR5 HC5 HT5
        have Hsm := Lib.hid hsm
        clear hsm
        cases ok
        · go_wp2_with fail
          go_meet
          exact ⟨HS6.out.alloc _, HR6.out.alloc _, HC6.out.below (bel1 w6 _), HT6.out.then_below (bel1 w6 _) HT6.out.size⟩
        · go_wp2_with fail
          refine (specSystemOk nk A6 _ c6 _ ll _ (HO6.out.below (bel1 w6 _)) (Hsm.out (by trivial))).mono ?_
          rintro e w8 ⟨rfl, hb8⟩
          have b8 := (bel1 w6 (.cells #[.int .i64 nk, .slice A6 ll.length c6] 25)).trans (hb8.mono (by simp))
          have HX8 := Lib.hid ((Blk.new1 w6 #[.int .i64 nk, .slice A6 ll.length c6] 25).below hb8 (by simp))
          have HS8 := Lib.hid (HS6.out.below b8 HS6.out.lt)
          have HR8 := Lib.hid (HR6.out.below b8 HR6.out.lt)
          have HC8 := Lib.hid (HC6.out.below b8)
          have HT8 := Lib.hid (HT6.out.then_below b8 HT6.out.size)
          have HO8 := Lib.hid (HO6.out.below b8)
          clear hb8 b8
          cases hk : systemOk nk ll
          · go_wp2_with fail
            go_meet
            exact ⟨HS8, HR8, HC8, HT8⟩
          · have Hk := Lib.hid hk
            clear hk
            obtain ⟨x0, x1, -, -, xl⟩ := HX8.out.two
            obtain ⟨r0, r1, f0, f1, rl⟩ := HR8.out.two
            go_wp2_with fail
            refine bodyPost_ret (v := .agg #[.int .i64 nk, .slice A6 ll.length c6]) (by simp [results, Tryd.results17, go_sem, *]) rfl ⟨nk, ll, _, rfl, ?_, Hk.out, ?_⟩
            · exact ((HO8.out.far (by simp; omega) _).far (by simp; omega) _).mono hw5
            · exact ((HT8.out.then_set 0 _ (Nat.le_refl _)).then_set 1 _ (Nat.le_refl _)).grown
    case rest =>
      obtain ⟨HS, HR, HC, HT⟩ := hcut
      clear HS3 HR3 HC3 HT3
      go_wp2_with fail
      refine (l01Below_small g A n c 4 _ HC.out (by omega) (by omega)).mono ?_
      rintro e w4 ⟨r, rfl, hr, hC4, hG4⟩
      have HS4 := Lib.hid ((grown_turn hG4).cur HS.out (by omega))
      have HR4 := Lib.hid ((grown_turn hG4).cur HR.out (by omega))
      have HC4 := Lib.hid hC4
      have HT4 := Lib.hid (HT.out.trans (grown_turn hG4))
      clear HS HR HC HT hC4 hG4
      go_wp2_with fail
      go_loopw [6, 7, 8] (fun i _ _ wr => ∃ (q : Nat) (l : List R) (v : Value), i = .int .i64 q ∧ q + l.length ≤ 3 ∧ Hid (l.all (ruleOk kk) = true ∧ l.all ordered = true) ∧ Hid (Blk wr (w.heap.size + 1) 25 #[.int .i64 kk, v]) ∧
        Hid (wr.ownsRow (w.heap.size + 2) 70 2 v l.length (rulesC l)) ∧ Hid (Blk wr w.heap.size 25 #[.int .i64 0, .slice none 0 0]) ∧ Hid (Cur wr g A n c) ∧ Hid (Turn [g] w wr)) (fun i _ _ _ => (intOf i).toNat)
      case atStart => exact ⟨r, [], .slice none 0 0, rfl, by simp; omega, ⟨rfl, rfl⟩, HS4, World.ownsRow_nil _ _ _ _, HR4, HC4, HT4⟩
      case round =>
        obtain ⟨q, l, v, rfl, hql, HA, HS, HW, HR, HC, HT⟩ := hrel
        have hTs := HT.out.size
        by_cases hq : 0 < q
        · obtain ⟨s0, s1, g0, g1, sl⟩ := HS.out.two
          have hgw := HC.out.lt
          go_wp2_with fail
          have hsb : w.heap.size + 1 < wr.heap.size := sl
          have K0 : wr.drew.cell? ⟨w.heap.size + 1, 0, none⟩ = some (.int .i64 kk) ∧ Cur wr.drew g A n c ∧ Turn [g] wr wr.drew := ⟨s0, HC.out.below ((Below.refl _ wr).drew), turn_below ((Below.refl _ wr).drew)⟩
          go_cut [7, 8] from 33 to 58 (fun s7 s8 wx => ∃ (d : Nat) (u v : ByteArray) (cc : Bool), s7 = .pointer (some ⟨d, 0, none⟩) ∧ s8 = .bool cc ∧ wx.cell? ⟨d, 0, none⟩ = some (.string u) ∧ wx.cell? ⟨d, 1, none⟩ = some (.string v) ∧ Hid (cc = true → ruleOk kk (u, v) = true ∧ ordered (u, v) = true) ∧ Hid (Cur wx g A n c) ∧ Hid (Turn [g] wr wx))
          case first =>
            go_region_held3 (fun w' => w'.cell? ⟨w.heap.size + 1, 0, none⟩ = some (.int .i64 kk) ∧ Cur w' g A n c ∧ Turn [g] wr w')
              (first | exact K0 | exact K5 | exact K6 | exact K7 | exact ds_alloc K0 hsb _ | exact ds_alloc K5 hsb _ | exact ds_alloc K6 hsb _ | exact ds_alloc K7 hsb _ | exact ds_set K7 hsb hgw _ _ (Nat.le_refl _) | exact ds_set (ds_set K7 hsb hgw _ _ (Nat.le_refl _)) hsb hgw _ _ (Nat.le_refl _) | exact ds_set K7 hsb hgw _ _ K5.2.2.size | exact ds_set (ds_set K7 hsb hgw _ _ K5.2.2.size) hsb hgw _ _ K5.2.2.size | exact ds_set K7 hsb hgw _ _ K6.2.2.size | exact ds_set (ds_set K7 hsb hgw _ _ K6.2.2.size) hsb hgw _ _ K6.2.2.size)
              ((first
                | (go_at_call_of 37 (Value.int .i64 4); (first | refine (l02Draw_any g A n c kk 4 _ K0.2.1 (by omega) (by omega) (by omega)).mono ?_ | refine (l02Draw_any g A n c kk 4 _ (ds_alloc K0 hsb _).2.1 (by omega) (by omega) (by omega)).mono ?_); rintro e w5 ⟨p, rfl, -, hp2, hC5, hG5⟩; (first | have K5 := ds_grown K0 hsb (by omega) hC5 hG5 | have K5 := ds_grown (ds_alloc K0 hsb _) hsb (by omega) hC5 hG5); (first | have D5 := new_grown_drew hG5 hgw | skip))
                | (go_at_call_of 37 (Value.int .i64 3); (first | refine (l02Draw_any g A n c kk 3 _ K5.2.1 (by omega) (by omega) (by omega)).mono ?_ | refine (l02Draw_any g A n c kk 3 _ (ds_alloc K5 hsb _).2.1 (by omega) (by omega) (by omega)).mono ?_); rintro e w6 ⟨q9, rfl, -, hq2, hC6, hG6⟩; (first | have K6 := ds_grown K5 hsb (by omega) hC6 hG6 | have K6 := ds_grown (ds_alloc K5 hsb _) hsb (by omega) hC6 hG6); (first | have D6 := (grown_turn hG6).cur D5 (by omega) | have D6 := new_grown hG6 K5.2.1.lt | skip))
                | (go_at_call 36; refine (specOrientRule kk p q9 _ (by omega) (by omega)).mono ?_; have Hgd := Lib.hid (fun h => orient_good (k := kk) (u := p) (v := q9) h); generalize orientOf (kk : Int) (p, q9) = oo at *; generalize canOrient (kk : Int) (p, q9) = cc at *; obtain ⟨oa, ob⟩ := oo; rintro e w7 ⟨rfl, hb7⟩; (first | have K7 := ds_below K6 hsb hb7 | have K7 := ds_below (ds_alloc K6 hsb _) hsb hb7); (first | (have D7 := D6.below hb7 D6.lt; obtain ⟨x0, x1, e0, e1, xl⟩ := id D7.two) | (have D7 := new_below hb7; obtain ⟨x0, x1, e0, e1, xl⟩ := id D7.two) | skip))))
            all_goals go_wp2_with fail
            all_goals go_meet
            all_goals first
              | exact ⟨_, oa, ob, cc, rfl, rfl, (Blk.new1 w7 _ _).cell 0, (Blk.new1 w7 _ _).cell 1, Hgd, (ds_alloc K7 hsb _).2.1, (ds_alloc K7 hsb _).2.2⟩
              | exact ⟨_, oa, ob, cc, rfl, rfl, ((D7.set_ 0 (.string oa)).set_ 1 (.string ob)).cell 0, ((D7.set_ 0 (.string oa)).set_ 1 (.string ob)).cell 1, Hgd, (ds_set (ds_set K7 hsb hgw _ _ K6.2.2.size) hsb hgw _ _ K6.2.2.size).2.1, (ds_set (ds_set K7 hsb hgw _ _ K6.2.2.size) hsb hgw _ _ K6.2.2.size).2.2⟩
              | exact ⟨_, oa, ob, cc, rfl, rfl, ((D7.set_ 0 (.string oa)).set_ 1 (.string ob)).cell 0, ((D7.set_ 0 (.string oa)).set_ 1 (.string ob)).cell 1, Hgd, (ds_set (ds_set K7 hsb hgw _ _ K5.2.2.size) hsb hgw _ _ K5.2.2.size).2.1, (ds_set (ds_set K7 hsb hgw _ _ K5.2.2.size) hsb hgw _ _ K5.2.2.size).2.2⟩
              | exact ⟨_, oa, ob, cc, rfl, rfl, ((D7.set_ 0 (.string oa)).set_ 1 (.string ob)).cell 0, ((D7.set_ 0 (.string oa)).set_ 1 (.string ob)).cell 1, Hgd, (ds_set (ds_set K7 hsb hgw _ _ (Nat.le_refl _)) hsb hgw _ _ (Nat.le_refl _)).2.1, (ds_set (ds_set K7 hsb hgw _ _ (Nat.le_refl _)) hsb hgw _ _ (Nat.le_refl _)).2.2⟩
          case rest =>
            obtain ⟨d, u, v9, cc, rfl, rfl, d0, d1, HG, HC5, HT5⟩ := hcut
            have HS5 := Lib.hid (HT5.out.cur HS.out (by omega))
            have HR5 := Lib.hid (HT5.out.cur HR.out (by omega))
            have HW5 := Lib.hid (HT5.out.row (by omega) HW.out)
            have HT6 := Lib.hid (HT.out.trans HT5.out)
            have hwc := HT5.out.size
            clear s0 s1 g0 g1 sl K0 HS HR HW HC HT
            cases cc
            · go_wp2_with fail
              go_roundw
              case rel => exact ⟨q - 1, l, v, by go_num, by omega, HA, HS5, HW5, HR5, HC5, HT6⟩
              case measure => simp [intOf]; omega
            · have Hd := Lib.hid (HG.out (by trivial))
              clear HG
              obtain ⟨s0, s1, g0, g1, sl⟩ := HS5.out.two
              go_wp2_with (at_builtin; refine wpList_append_own _ rfl _ _ 23 rfl (w.heap.size + 2) 70 i0 (.agg #[.string ⟨#[]⟩, .string ⟨#[]⟩]) 2 32 Tryd.underlying23 hi hz0 hz1 hz2 rfl (by decide) _ _ _ rfl (HW5.out.alloc _) ⟨wc.heap.size, 0, none⟩ 1 1 [.string u, .string v9] rfl rfl ?c1 ?c2 ?c3 ?c4 ?c5 ?_)
              case c1 =>
                intro j z hj
                match j, hj with
                | 0, hj => simp at hj; subst hj; simp [Addr.add]
                | 1, hj => simp at hj; subst hj; simp [Addr.add]
              case c2 => intro z hz; simp at hz; rcases hz with rfl | rfl <;> rfl
              case c3 => unfold maxLen; omega
              case c4 => omega
              case c5 => simp; omega
              intro v' w6 hown' hgrow _
              have hown2 : w6.ownsRow (w.heap.size + 2) 70 2 v' (l ++ [(u, v9)]).length (rulesC (l ++ [(u, v9)])) := by rw [rulesC_append, List.length_append]; exact hown'
              obtain ⟨g4, o4, c4, hv4⟩ := (Own.of_row hown2).formR (by simp)
              subst hv4
              have hB6 : Below (w.heap.size + 2) wc w6 := grown_one HW5.out hgrow (Below.refl _ _) (Nat.le_refl _) (by omega)
              have HS6 := Lib.hid (HS5.out.below hB6 (by omega))
              have HR6 := Lib.hid (HR5.out.below hB6 (by omega))
              have HC6 := Lib.hid (HC5.out.keep (fun j hj => hB6.block j (by omega)))
              have HT7 := Lib.hid (HT6.out.then_below hB6 (by omega))
              have HO := Lib.hid hown2
              clear s0 s1 g0 g1 sl d0 d1 hown' hown2 hgrow
              obtain ⟨s0, s1, g0, g1, sl⟩ := HS6.out.two
              have HS7 := Lib.hid (HS6.out.set_ 1 (.slice (some ⟨g4, o4, none⟩) (l ++ [(u, v9)]).length c4))
              have HR7 := Lib.hid (HR6.out.far (p := ⟨w.heap.size + 1, 1, none⟩) (by simp) (.slice (some ⟨g4, o4, none⟩) (l ++ [(u, v9)]).length c4))
              have HC7 := Lib.hid (HC6.out.keep (fun j hj => Below.heap_setCell w6 ⟨w.heap.size + 1, 1, none⟩ (.slice (some ⟨g4, o4, none⟩) (l ++ [(u, v9)]).length c4) j (by show j ≠ w.heap.size + 1; omega)))
              have HT8 := Lib.hid (HT7.out.then_set 1 (.slice (some ⟨g4, o4, none⟩) (l ++ [(u, v9)]).length c4) (by omega : w.heap.size ≤ w.heap.size + 1))
              have HO7 := Lib.hid (ownsRow_setCell_below HO.out (a := ⟨w.heap.size + 1, 1, none⟩) (by show w.heap.size + 1 < _; omega) (.slice (some ⟨g4, o4, none⟩) (l ++ [(u, v9)]).length c4))
              have HA7 : Hid ((l ++ [(u, v9)]).all (ruleOk kk) = true ∧ (l ++ [(u, v9)]).all ordered = true) := by
                refine ⟨?_, ?_⟩
                · rw [List.all_append, HA.out.1]; simp [Hd.out.1]
                · rw [List.all_append, HA.out.2]; simp [Hd.out.2]
              have Hl1 := Lib.hid (show (l ++ [(u, v9)]).length = l.length + 1 from List.length_append)
              generalize l ++ [(u, v9)] = l2 at *
              go_wp2_with fail
              go_roundw
              case rel => exact ⟨q - 1, l2, _, by go_num, by have := Hl1.out; omega, HA7, HS7, HO7, HR7, HC7, HT8⟩
              case measure => simp [intOf]; omega
        · obtain rfl : q = 0 := by omega
          have HO := Lib.hid (Own.of_row HW.out)
          obtain ⟨A9, c9, rfl⟩ := HO.out.form
          obtain ⟨s0, s1, -, -, sl⟩ := HS.out.two
          obtain ⟨r0, r1, f0, f1, rl⟩ := HR.out.two
          have Hsys : Hid (systemOk kk l = true) := by
            show _ = _
            rw [systemOk, rulesOk, inK, HA.out.1, HA.out.2, decide_eq_true (by omega : (1 : Int) ≤ kk), decide_eq_true (by omega : (kk : Int) ≤ 4), decide_eq_true (by omega : l.length ≤ 12)]; rfl
          clear HW
          go_wp2_with fail
          refine bodyPost_ret (v := .agg #[.int .i64 kk, .slice A9 l.length c9]) (by simp [results, Tryd.results17, go_sem, *]) rfl ⟨kk, l, _, rfl, ?_, Hsys.out, ?_⟩
          · exact ((HO.out.far (by simp) _).far (by simp) _).mono (by omega)
          · exact ((HT.out.then_set 0 _ (Nat.le_refl _)).then_set 1 _ (Nat.le_refl _)).grown
end Go.Proofs.YtfkojahoaljiaaaDoor

namespace Go.Proofs.YtfkojahoaljiaaaDoor
open Go.RowKit Go.Joins

def SysMade (W : World) (e : Ending) (w' : World) : Prop :=
  ∃ k l v, e = .returned (.agg #[.int .i64 k, v]) ∧ Own W.heap.size w' v 2 l.length (rulesC l) ∧ systemOk k l = true ∧ Below W.heap.size W w'
set_option maxHeartbeats 800000 in
theorem MakeSystem_any (A : Option Addr) (n c m : Nat) (w : World) (h : InB w A n c) (hn : n ≤ 1048576) (hm : m ≤ 1000000) :
    Calls Tryd.prog 5 #[.slice A n c, .int .i64 m] w (SysMade w) := by
  have H := Lib.hid (h.keep (bel1 w (.cells #[.int .i64 0, .slice none 0 0] 25)))
  clear h
  go_enter Tryd.func5, Tryd.ntmps5
  go_wp2_with fail
  refine (l31New_any A n c m _ H.out hn hm).mono ?_
  rintro e w1 ⟨g, rfl, hg, hC, hb⟩
  have b1 := (bel1 w (.cells #[.int .i64 0, .slice none 0 0] 25)).trans (hb.mono (by simp))
  have HR1 := Lib.hid ((Blk.new1 w #[.int .i64 0, .slice none 0 0] 25).below hb (by simp))
  have hg1 : w.heap.size + 1 ≤ g := by simpa using hg
  have HC := Lib.hid hC
  have hgl := hC.lt
  clear hb hC hg
  go_wp2_with fail
  refine (l03Draw_any g A n c _ HC.out).mono ?_
  rintro e w2 ⟨k, l, v, rfl, hO, hsys, hG⟩
  obtain ⟨A9, c9, rfl⟩ := hO.form
  have HR2 := Lib.hid ((grown_turn hG).cur HR1.out (by omega))
  have HO := Lib.hid hO
  have Hs := Lib.hid hsys
  have b2 := below_grown b1 hG (by omega) (by omega)
  clear hO hG hsys
  obtain ⟨r0, r1, f0, f1, rl⟩ := HR2.out.two
  go_wp2_with fail
  refine bodyPost_ret (v := .agg #[.int .i64 k, .slice A9 l.length c9]) (by simp [results, Tryd.results5, go_sem, *]) rfl ⟨k, l, _, rfl, ?_, Hs.out, (b2.setCell (by simp) _).setCell (by simp) _⟩
  exact ((HO.out.far (by simp; omega) _).far (by simp; omega) _).mono (by omega)
end Go.Proofs.YtfkojahoaljiaaaDoor

namespace Go.Proofs.YtfkojahoaljiaaaDoor
open Go.RowKit

/-- The letter with number x. -/
def letC (x : Nat) : UInt8 := UInt8.ofNat (97 + x)
/-- Is one of L an end of v? -/
def endsW (L : List (List UInt8)) (v : List UInt8) : Bool := L.any fun p => p.isSuffixOf v
theorem endsW_iff (L : List (List UInt8)) (v : List UInt8) : endsW L v = true ↔ ∃ p ∈ L, p <:+ v := by
  unfold endsW
  rw [List.any_eq_true]
  constructor
  · rintro ⟨p, hp, h⟩; exact ⟨p, hp, List.isSuffixOf_iff_suffix.1 h⟩
  · rintro ⟨p, hp, h⟩; exact ⟨p, hp, List.isSuffixOf_iff_suffix.2 h⟩
/-- The numbers of f below j, added. -/
def sumTo (f : Nat → Nat) : Nat → Nat
  | 0 => 0
  | j + 1 => sumTo f j + f j
theorem sumTo_congr {f g : Nat → Nat} : ∀ j, (∀ x, x < j → f x = g x) → sumTo f j = sumTo g j
  | 0, _ => rfl
  | j + 1, h => by rw [sumTo, sumTo, sumTo_congr j (fun x hx => h x (by omega)), h j (Nat.lt_succ_self j)]
theorem sumTo_pos {f : Nat → Nat} : ∀ j, 0 < sumTo f j ↔ ∃ x, x < j ∧ 0 < f x
  | 0 => by simp [sumTo]
  | j + 1 => by
    rw [sumTo]
    constructor
    · intro h
      by_cases hj : 0 < f j
      · exact ⟨j, Nat.lt_succ_self j, hj⟩
      · have h0 : f j = 0 := Nat.eq_zero_of_not_pos hj
        rw [h0] at h
        obtain ⟨x, hx, h⟩ := (sumTo_pos j).1 h
        exact ⟨x, by omega, h⟩
    · rintro ⟨x, hx, h⟩
      by_cases e : x = j
      · subst e; omega
      · have := (sumTo_pos j).2 ⟨x, by omega, h⟩; omega
/-- How many words of n of the first k letters can follow u, so that no end of a beginning longer than u is in L. -/
def cnt (L : List (List UInt8)) (k : Nat) : Nat → List UInt8 → Nat
  | 0, _ => 1
  | n + 1, u => sumTo (fun x => if endsW L (u ++ [letC x]) then 0 else cnt L k n (u ++ [letC x])) k
/-- Of those, the ones that begin with one of the first j letters. -/
def cntTo (L : List (List UInt8)) (k n : Nat) (u : List UInt8) (j : Nat) : Nat := sumTo (fun x => if endsW L (u ++ [letC x]) then 0 else cnt L k n (u ++ [letC x])) j
theorem cnt_succ (L : List (List UInt8)) (k n : Nat) (u : List UInt8) : cnt L k (n + 1) u = cntTo L k n u k := rfl
/-- What follows is the same behind both. -/
def Eqv (L : List (List UInt8)) (u v : List UInt8) : Prop := ∀ t : List UInt8, t ≠ [] → endsW L (u ++ t) = endsW L (v ++ t)
theorem Eqv.refl (L : List (List UInt8)) (u : List UInt8) : Eqv L u u := fun _ _ => rfl
theorem Eqv.symm {L : List (List UInt8)} {u v : List UInt8} (h : Eqv L u v) : Eqv L v u := fun t ht => (h t ht).symm
theorem Eqv.trans {L : List (List UInt8)} {u v x : List UInt8} (h : Eqv L u v) (h' : Eqv L v x) : Eqv L u x := fun t ht => (h t ht).trans (h' t ht)
theorem Eqv.snoc {L : List (List UInt8)} {u v : List UInt8} (h : Eqv L u v) (x : UInt8) : Eqv L (u ++ [x]) (v ++ [x]) := fun t _ => by
  rw [List.append_assoc, List.append_assoc]; exact h _ (by simp)
theorem Eqv.cnt {L : List (List UInt8)} {k : Nat} : ∀ (n : Nat) {u v : List UInt8}, Eqv L u v → cnt L k n u = cnt L k n v
  | 0, _, _, _ => rfl
  | n + 1, u, v, h => by
    rw [Go.Proofs.YtfkojahoaljiaaaDoor.cnt, Go.Proofs.YtfkojahoaljiaaaDoor.cnt]
    refine sumTo_congr k fun x _ => ?_
    rw [h [letC x] (by simp), Eqv.cnt n (h.snoc (letC x))]
/-- A long enough end says what may follow. -/
theorem eqv_cut {L : List (List UInt8)} {m : Nat} (hL : ∀ p ∈ L, p.length ≤ m + 1) (u : List UInt8) : Eqv L u (u.drop (u.length - m)) := by
  intro t ht
  have ht1 : 1 ≤ t.length := List.length_pos_iff.2 ht
  have hs : u.drop (u.length - m) ++ t <:+ u ++ t := ⟨u.take (u.length - m), by rw [← List.append_assoc, List.take_append_drop]⟩
  rw [Bool.eq_iff_iff, endsW_iff, endsW_iff]
  constructor
  · rintro ⟨p, hp, h⟩
    refine ⟨p, hp, ?_⟩
    by_cases hm : u.length ≤ m
    · rw [show u.length - m = 0 by omega, List.drop_zero]; exact h
    · refine List.suffix_of_suffix_length_le h hs ?_
      have := hL p hp
      simp; omega
  · rintro ⟨p, hp, h⟩
    exact ⟨p, hp, h.trans hs⟩
/-- The longest end that begins one of L says it, too. -/
theorem eqv_lsp {L : List (List UInt8)} {u e : List UInt8} (he : e <:+ u) (hmax : ∀ q, q <:+ u → (∃ p ∈ L, q <+: p) → q.length ≤ e.length) : Eqv L u e := by
  intro t ht
  have hs : e ++ t <:+ u ++ t := by obtain ⟨a, rfl⟩ := he; exact ⟨a, by simp⟩
  rw [Bool.eq_iff_iff, endsW_iff, endsW_iff]
  constructor
  · rintro ⟨p, hp, h⟩
    refine ⟨p, hp, List.suffix_of_suffix_length_le h hs ?_⟩
    rw [List.length_append]
    by_cases hl : p.length ≤ t.length
    · omega
    · obtain ⟨a, ha⟩ := h
      -- p = (the end of u) ++ t
      have hal : a.length + p.length = u.length + t.length := by have := congrArg List.length ha; simpa using this
      have h1 : u.drop a.length ++ t = p := by
        have h2 := congrArg (List.drop a.length) ha
        rw [List.drop_left, List.drop_append_of_le_length (by omega)] at h2
        exact h2.symm
      have h3 := hmax (u.drop a.length) (List.drop_suffix _ _) ⟨p, hp, ⟨t, h1⟩⟩
      rw [List.length_drop] at h3
      omega
  · rintro ⟨p, hp, h⟩
    exact ⟨p, hp, h.trans hs⟩
end Go.Proofs.YtfkojahoaljiaaaDoor

namespace Go.Proofs.YtfkojahoaljiaaaDoor

/-- s with the letter number x behind it. -/
def ext1 (s : ByteArray) (x : Nat) : ByteArray := s ++ ⟨#[UInt8.ofNat (97 + x)]⟩
def extK (s : ByteArray) (k : Nat) : List ByteArray := (List.range k).map (ext1 s)
def nextL (l : List ByteArray) (k : Nat) : List ByteArray := l.flatMap fun s => extK s k
def wordsL (k : Nat) : Nat → List ByteArray
  | 0 => [⟨#[]⟩]
  | n + 1 => nextL (wordsL k n) k
theorem ext1_size (s : ByteArray) (x : Nat) : (ext1 s x).size = s.size + 1 := by unfold ext1; rw [ByteArray.size_append]; rfl
theorem extK_zero (s : ByteArray) : extK s 0 = [] := rfl
theorem extK_step (s : ByteArray) (x : Nat) : extK s (x + 1) = extK s x ++ [ext1 s x] := by simp [extK, List.range_succ]
theorem extK_length (s : ByteArray) (x : Nat) : (extK s x).length = x := by simp [extK]
theorem nextL_nil (k : Nat) : nextL [] k = [] := rfl
theorem nextL_length (l : List ByteArray) (k : Nat) : (nextL l k).length = l.length * k := by
  unfold nextL
  induction l with
  | nil => simp
  | cons a l ih => rw [List.flatMap_cons, List.length_append, ih, extK_length, List.length_cons, Nat.succ_mul]; omega
theorem nextL_take (l : List ByteArray) (k j : Nat) (s : ByteArray) (h : l[j]? = some s) : nextL (l.take (j + 1)) k = nextL (l.take j) k ++ extK s k := by
  have hj := (List.getElem?_eq_some_iff.1 h).1
  have he := (List.getElem?_eq_some_iff.1 h).2
  rw [List.take_succ_eq_append_getElem hj, he]
  simp [nextL, List.flatMap_append]
theorem wordsL_size (k : Nat) : ∀ n, ∀ s ∈ wordsL k n, s.size = n
  | 0, s, h => by
    simp only [wordsL, List.mem_singleton] at h
    subst h; rfl
  | n + 1, s, h => by
    simp only [wordsL, nextL, List.mem_flatMap, extK, List.mem_map] at h
    obtain ⟨a, ha, x, _, rfl⟩ := h
    rw [ext1_size, wordsL_size k n a ha]
theorem wordsL_step_length (k n : Nat) : (wordsL k (n + 1)).length = (wordsL k n).length * k := nextL_length _ _
end Go.Proofs.YtfkojahoaljiaaaDoor

namespace Go.Proofs.YtfkojahoaljiaaaDoor
open Go.RowKit

/-- An end: a rule and a length. -/
abbrev E := Nat × Nat
def lefts (l : List R) : List (List UInt8) := l.map fun r => r.1.data.toList
theorem mem_lefts {l : List R} {p : List UInt8} : p ∈ lefts l ↔ ∃ r ∈ l, r.1.data.toList = p := by unfold lefts; rw [List.mem_map]
def textE (l : List R) (e : E) : ByteArray := if e = (0, 0) then ⟨#[]⟩ else match l[e.1]? with | some r => r.1.extract 0 e.2 | none => ⟨#[]⟩
def GoodE (l : List R) (e : E) : Prop := e = (0, 0) ∨ (1 ≤ e.2 ∧ ∃ r, l[e.1]? = some r ∧ e.2 ≤ r.1.size)
theorem textE_zero (l : List R) : textE l (0, 0) = ⟨#[]⟩ := rfl
theorem textE_some {l : List R} {k n : Nat} {r : R} (hn : 1 ≤ n) (h : l[k]? = some r) : textE l (k, n) = r.1.extract 0 n := by
  unfold textE
  rw [if_neg (by intro e; injection e with _ e; omega)]
  dsimp only
  rw [h]
theorem GoodE.size {l : List R} {e : E} (h : GoodE l e) (hl : ∀ r ∈ l, r.1.size ≤ 8) : (textE l e).size ≤ 8 := by
  rcases h with rfl | ⟨h1, r, hr, h2⟩
  · rw [textE_zero]; exact Nat.zero_le _
  · rw [show e = (e.1, e.2) from rfl, textE_some h1 hr]
    have := hl r (List.mem_of_getElem? hr)
    simp; omega
theorem GoodE.lt {l : List R} {e : E} (h : GoodE l e) (hl : ∀ r ∈ l, r.1.size ≤ 8) (h12 : l.length ≤ 12) : e.1 < 12 ∧ e.2 < 9 := by
  rcases h with rfl | ⟨h1, r, hr, h2⟩
  · exact ⟨by omega, by omega⟩
  · have := hl r (List.mem_of_getElem? hr)
    have := (List.getElem?_eq_some_iff.1 hr).1
    exact ⟨by omega, by omega⟩
theorem begS_prefix (s p : ByteArray) : begS s p = true ↔ p.data.toList <+: s.data.toList := by
  unfold begS
  rw [Bool.and_eq_true, decide_eq_true_eq, beq_iff_eq, toList_data, toList_data]
  have he : (s.extract 0 p.size).data.toList = s.data.toList.take p.size := by
    rw [ByteArray.data_extract, Array.toList_extract]
    simp [List.extract]
  rw [he]
  constructor
  · rintro ⟨-, h⟩; rw [← h]; exact List.take_prefix _ _
  · intro h
    have hl := h.length_le
    refine ⟨by simpa using hl, ?_⟩
    have := List.prefix_iff_eq_take.1 h
    rw [show p.data.toList.length = p.size by simp] at this
    exact this.symm
theorem extract_end (t : ByteArray) (i : Nat) : (t.extract i t.size).data.toList = t.data.toList.drop i := by
  rw [ByteArray.data_extract, Array.toList_extract]
  have h : t.data.toList.length = t.size := by simp
  simp only [List.extract]
  exact List.take_of_length_le (by rw [List.length_drop, h]; exact Nat.le_refl _)
theorem extract_beg (t : ByteArray) (n : Nat) : (t.extract 0 n).data.toList = t.data.toList.take n := by
  rw [ByteArray.data_extract, Array.toList_extract]
  simp [List.extract]
/-- Is p an end of s? -/
def sufS (s p : ByteArray) : Bool := decide (p.size ≤ s.size) && ((s.extract (s.size - p.size) s.size).toList == p.toList)
theorem sufS_iff (s p : ByteArray) : sufS s p = true ↔ p.data.toList <:+ s.data.toList := by
  unfold sufS
  rw [Bool.and_eq_true, decide_eq_true_eq, beq_iff_eq, toList_data, toList_data, extract_end]
  constructor
  · rintro ⟨-, h⟩; rw [← h]; exact List.drop_suffix _ _
  · intro h
    have hl := h.length_le
    refine ⟨by simpa using hl, ?_⟩
    have := List.suffix_iff_eq_drop.1 h
    rw [show p.data.toList.length = p.size by simp, show s.data.toList.length = s.size by simp] at this
    exact this.symm
/-- Is a Left an end of s? -/
def hitS (l : List R) (s : ByteArray) : Bool := l.any fun r => sufS s r.1
theorem hitS_ends (l : List R) (s : ByteArray) : hitS l s = endsW (lefts l) s.data.toList := by
  rw [Bool.eq_iff_iff, endsW_iff]
  unfold hitS
  rw [List.any_eq_true]
  constructor
  · rintro ⟨r, hr, h⟩; exact ⟨_, mem_lefts.2 ⟨r, hr, rfl⟩, (sufS_iff s r.1).1 h⟩
  · rintro ⟨p, hp, h⟩
    obtain ⟨r, hr, rfl⟩ := mem_lefts.1 hp
    exact ⟨r, hr, (sufS_iff s r.1).2 h⟩
/-- The first rule whose Left begins with the end of t from i on. -/
def ruleAt (l : List R) (t : ByteArray) (i : Nat) : Option Nat := l.findIdx? fun r => begS r.1 (t.extract i t.size)
def endOfS (l : List R) (t : ByteArray) : E := ((List.range t.size).findSome? fun i => (ruleAt l t i).map fun k => ((k, t.size - i) : E)).getD (0, 0)
theorem ruleAt_hit {l : List R} {t : ByteArray} {i k : Nat} {r : R} (h : l[k]? = some r) (hb : begS r.1 (t.extract i t.size) = true) (hn : ∀ j r', j < k → l[j]? = some r' → begS r'.1 (t.extract i t.size) = false) : ruleAt l t i = some k := by
  unfold ruleAt
  rw [List.findIdx?_eq_some_iff_getElem]
  obtain ⟨hk, he⟩ := List.getElem?_eq_some_iff.1 h
  refine ⟨hk, by rw [he]; exact hb, fun j hj => ?_⟩
  rw [hn j l[j] hj (List.getElem?_eq_getElem _)]
  simp
theorem ruleAt_none {l : List R} {t : ByteArray} {i : Nat} (hn : ∀ j r', j < l.length → l[j]? = some r' → begS r'.1 (t.extract i t.size) = false) : ruleAt l t i = none := by
  unfold ruleAt
  rw [List.findIdx?_eq_none_iff]
  intro x hx
  obtain ⟨j, hj, rfl⟩ := List.getElem_of_mem hx
  exact hn j _ hj (List.getElem?_eq_getElem _)
theorem ruleAt_some {l : List R} {t : ByteArray} {i k : Nat} (h : ruleAt l t i = some k) : ∃ r, l[k]? = some r ∧ (t.data.toList.drop i) <+: r.1.data.toList := by
  unfold ruleAt at h
  rw [List.findIdx?_eq_some_iff_getElem] at h
  obtain ⟨hk, h1, -⟩ := h
  exact ⟨_, List.getElem?_eq_getElem hk, by rw [← extract_end]; exact (begS_prefix _ _).1 h1⟩
theorem range_findSome {β : Type} {f : Nat → Option β} : ∀ (n : Nat), (∀ i, i < n → f i = none) → (List.range n).findSome? f = none := by
  intro n h
  rw [List.findSome?_eq_none_iff]
  intro x hx
  exact h x (List.mem_range.1 hx)
theorem endOfS_hit {l : List R} {t : ByteArray} {i k : Nat} (hi : i < t.size) (h : ruleAt l t i = some k) (hn : ∀ j, j < i → ruleAt l t j = none) : endOfS l t = (k, t.size - i) := by
  unfold endOfS
  have e : List.range t.size = List.range i ++ (i :: (List.range (t.size - (i + 1))).map (fun j => i + 1 + j)) := by
    have h1 : t.size = i + (1 + (t.size - (i + 1))) := by omega
    conv => lhs; rw [h1, List.range_add, List.range_add]
    simp [Function.comp_def, Nat.add_assoc]
  rw [e, List.findSome?_append, range_findSome i (fun j hj => by rw [hn j hj]; rfl)]
  simp [h]
theorem endOfS_miss {l : List R} {t : ByteArray} (hn : ∀ j, j < t.size → ruleAt l t j = none) : endOfS l t = (0, 0) := by
  unfold endOfS
  rw [range_findSome _ (fun j hj => by rw [hn j hj]; rfl)]
  rfl
theorem first_some {f : Nat → Option Nat} : ∀ n, (∀ i, i < n → f i = none) ∨ ∃ i k, i < n ∧ f i = some k ∧ ∀ j, j < i → f j = none
  | 0 => .inl (fun i hi => by omega)
  | n + 1 => by
    rcases first_some (f := f) n with h | ⟨i, k, hi, h1, h2⟩
    · cases hf : f n with
      | none => exact .inl (fun i hi => by by_cases e : i = n; · subst e; exact hf
                                           · exact h i (by omega))
      | some k => exact .inr ⟨n, k, Nat.lt_succ_self n, hf, h⟩
    · exact .inr ⟨i, k, by omega, h1, h2⟩
/-- What endOf finds: its text is the longest end of t that begins a Left. -/
theorem endOfS_spec (l : List R) (t : ByteArray) : GoodE l (endOfS l t) ∧ (textE l (endOfS l t)).data.toList <:+ t.data.toList ∧
    ∀ q, q <:+ t.data.toList → (∃ p ∈ lefts l, q <+: p) → q.length ≤ (textE l (endOfS l t)).data.toList.length := by
  have hts : t.data.toList.length = t.size := by simp
  have none_ : ∀ i, ruleAt l t i = none → ∀ r ∈ l, ¬ (t.data.toList.drop i) <+: r.1.data.toList := by
    intro i h r hr hp
    unfold ruleAt at h
    rw [List.findIdx?_eq_none_iff] at h
    have := h r hr
    rw [(begS_prefix _ _).2 (by rw [extract_end]; exact hp)] at this
    cases this
  rcases first_some (f := ruleAt l t) t.size with h | ⟨i, k, hi, h1, h2⟩
  · rw [endOfS_miss h]
    refine ⟨.inl rfl, by rw [textE_zero]; exact List.nil_suffix, ?_⟩
    rintro q hq ⟨p, hp, hqp⟩
    obtain ⟨r, hr, rfl⟩ := mem_lefts.1 hp
    have hqe := List.suffix_iff_eq_drop.1 hq
    by_cases h0 : q.length = 0
    · omega
    · exfalso
      have hle := hq.length_le
      refine none_ (t.size - q.length) (h _ (by omega)) r hr ?_
      rw [hts] at hqe
      rw [← hqe]; exact hqp
  · rw [endOfS_hit hi h1 h2]
    obtain ⟨r, hr, hp⟩ := ruleAt_some h1
    have hlen := hp.length_le
    rw [List.length_drop, hts] at hlen
    have hrs : r.1.data.toList.length = r.1.size := by simp
    have ht : (textE l (k, t.size - i)).data.toList = t.data.toList.drop i := by
      rw [textE_some (by omega) hr, extract_beg]
      have := List.prefix_iff_eq_take.1 hp
      rw [List.length_drop, hts] at this
      exact this.symm
    refine ⟨.inr ⟨by show 1 ≤ t.size - i; omega, r, hr, by show t.size - i ≤ _; omega⟩, by rw [ht]; exact List.drop_suffix _ _, ?_⟩
    rintro q hq ⟨p, hp2, hqp⟩
    obtain ⟨r2, hr2, rfl⟩ := mem_lefts.1 hp2
    rw [ht, List.length_drop, hts]
    have hqe := List.suffix_iff_eq_drop.1 hq
    have hle := hq.length_le
    rw [hts] at hqe hle
    by_cases hlt : t.size - q.length < i
    · exfalso
      refine none_ _ (h2 _ hlt) r2 hr2 ?_
      rw [← hqe]; exact hqp
    · omega
/-- The end behind e and the letter x. -/
def nxtS (l : List R) (e : E) (x : Nat) : Option E := if hitS l (ext1 (textE l e) x) then none else some (endOfS l (ext1 (textE l e) x))
theorem ext1_list (s : ByteArray) (x : Nat) : (ext1 s x).data.toList = s.data.toList ++ [letC x] := by
  unfold ext1; rw [ByteArray.data_append]; simp [letC]
abbrev cntE (l : List R) (k n : Nat) (e : E) : Nat := cnt (lefts l) k n (textE l e).data.toList
abbrev cntToE (l : List R) (k n : Nat) (e : E) (j : Nat) : Nat := cntTo (lefts l) k n (textE l e).data.toList j
theorem nxt_none {l : List R} {e : E} {x : Nat} (k n : Nat) (h : nxtS l e x = none) : cntToE l k n e (x + 1) = cntToE l k n e x := by
  unfold nxtS at h
  split at h
  · rename_i hh
    rw [hitS_ends, ext1_list] at hh
    show sumTo _ x + (if _ then _ else _) = _
    rw [hh, if_pos rfl]; rfl
  · cases h
theorem nxt_some {l : List R} {e e' : E} {x : Nat} (k n : Nat) (h : nxtS l e x = some e') : cntToE l k n e (x + 1) = cntToE l k n e x + cntE l k n e' ∧ GoodE l e' := by
  unfold nxtS at h
  split at h
  · cases h
  · rename_i hh
    injection h with h
    subst h
    rw [hitS_ends, ext1_list] at hh
    obtain ⟨h1, h2, h3⟩ := endOfS_spec l (ext1 (textE l e) x)
    refine ⟨?_, h1⟩
    show sumTo _ x + (if _ then _ else _) = _
    rw [if_neg hh]
    have := (eqv_lsp h2 h3).cnt (k := k) n
    rw [ext1_list] at this
    rw [this]; rfl
end Go.Proofs.YtfkojahoaljiaaaDoor

namespace Go.Proofs.YtfkojahoaljiaaaDoor
open Go.RowKit

theorem below_len : ∀ (n : Nat) (l : List Nat), l.Nodup → (∀ x ∈ l, x < n) → l.length ≤ n
  | 0, [], _, _ => Nat.le_refl _
  | 0, x :: l, _, h => by have := h x (List.mem_cons_self ..); omega
  | n + 1, l, hd, h => by
    by_cases hm : n ∈ l
    · have h1 := below_len n (l.erase n) (hd.erase n) (fun x hx => by
        have h2 := (hd.mem_erase_iff).1 hx
        have := h x h2.2
        have := h2.1
        omega)
      have h2 := List.length_erase_of_mem hm
      have h3 : 0 < l.length := List.length_pos_of_mem hm
      omega
    · have := below_len n l hd (fun x hx => by
        have := h x hx
        have hne : x ≠ n := fun e => hm (e ▸ hx)
        omega)
      omega
theorem e_nodup_len (Q : List E) (hd : Q.Nodup) (hb : ∀ e ∈ Q, e.1 < 12 ∧ e.2 < 9) : Q.length ≤ 108 := by
  have h1 : (Q.map fun e => e.1 * 9 + e.2).Nodup := by
    rw [List.Nodup, List.pairwise_map]
    refine List.Pairwise.imp_of_mem ?_ hd
    intro a b ha hb' hne e
    have := hb a ha
    have := hb b hb'
    exact hne (Prod.ext (by omega) (by omega))
  have h2 := below_len 108 _ h1 (fun x hx => by
    obtain ⟨e, he, rfl⟩ := List.mem_map.1 hx
    have := hb e he
    omega)
  simpa using h2
/-- The ends Q, met while the moves of the first a of them are added, and those of the next one with the first j letters. -/
structure LangAt (l : List R) (k : Nat) (Q : List E) (a j : Nat) : Prop where
  nodup : Q.Nodup
  head : Q[0]? = some (0, 0)
  good : ∀ e ∈ Q, GoodE l e
  le : a ≤ Q.length
  done : ∀ i e x e', i < a → Q[i]? = some e → x < k → nxtS l e x = some e' → e' ∈ Q
  mid : ∀ e x e', Q[a]? = some e → x < j → nxtS l e x = some e' → e' ∈ Q
theorem LangAt.start (l : List R) (k : Nat) : LangAt l k [(0, 0)] 0 0 :=
  ⟨by simp, rfl, fun e he => by simp at he; exact .inl he, Nat.zero_le _, fun i _ _ _ h => by omega, fun _ x _ _ h => by omega⟩
theorem LangAt.len {l : List R} {k : Nat} {Q : List E} {a j : Nat} (h : LangAt l k Q a j) (hl : ∀ r ∈ l, r.1.size ≤ 8) (h12 : l.length ≤ 12) : Q.length ≤ 108 :=
  e_nodup_len Q h.nodup (fun e he => (h.good e he).lt hl h12)
/-- A letter that may not follow. -/
theorem LangAt.skip {l : List R} {k : Nat} {Q : List E} {a j : Nat} {e : E} (h : LangAt l k Q a j) (he : Q[a]? = some e) (hn : nxtS l e j = none) : LangAt l k Q a (j + 1) :=
  ⟨h.nodup, h.head, h.good, h.le, h.done, fun e1 x e' h1 hx h2 => by
    rw [he] at h1; injection h1 with h1; subst h1
    by_cases hxj : x = j
    · subst hxj; rw [hn] at h2; cases h2
    · exact h.mid _ x e' he (by omega) h2⟩
/-- A letter that leads to an end that is there. -/
theorem LangAt.old {l : List R} {k : Nat} {Q : List E} {a j : Nat} {e e' : E} (h : LangAt l k Q a j) (he : Q[a]? = some e) (hn : nxtS l e j = some e') (hm : e' ∈ Q) : LangAt l k Q a (j + 1) :=
  ⟨h.nodup, h.head, h.good, h.le, h.done, fun e1 x e2 h1 hx h2 => by
    rw [he] at h1; injection h1 with h1; subst h1
    by_cases hxj : x = j
    · subst hxj; rw [hn] at h2; injection h2 with h2; subst h2; exact hm
    · exact h.mid _ x e2 he (by omega) h2⟩
/-- A letter that leads to a new end. -/
theorem LangAt.new {l : List R} {k : Nat} {Q : List E} {a j : Nat} {e e' : E} (h : LangAt l k Q a j) (he : Q[a]? = some e) (hn : nxtS l e j = some e') (hm : e' ∉ Q) : LangAt l k (Q ++ [e']) a (j + 1) := by
  have hlt := (List.getElem?_eq_some_iff.1 he).1
  have hat : ∀ i, i ≤ a → (Q ++ [e'])[i]? = Q[i]? := fun i hi => List.getElem?_append_left (by omega)
  refine ⟨List.nodup_append.2 ⟨h.nodup, by simp, fun x hx y hy exy => by simp at hy; subst hy; subst exy; exact hm hx⟩, by rw [hat 0 (Nat.zero_le _)]; exact h.head, fun y hy => ?_, by simp; omega, fun i e1 x e2 hi h1 hx h2 => ?_, fun e1 x e2 h1 hx h2 => ?_⟩
  · rcases List.mem_append.1 hy with hy | hy
    · exact h.good y hy
    · simp at hy; subst hy; exact (nxt_some k 0 hn).2
  · rw [hat i (by omega)] at h1
    exact List.mem_append_left _ (h.done i e1 x e2 hi h1 hx h2)
  · rw [hat a (Nat.le_refl _), he] at h1; injection h1 with h1; subst h1
    by_cases hxj : x = j
    · subst hxj; rw [hn] at h2; injection h2 with h2; subst h2; exact List.mem_append_right _ (by simp)
    · exact List.mem_append_left _ (h.mid _ x e2 he (by omega) h2)
/-- All letters are through. -/
theorem LangAt.round {l : List R} {k : Nat} {Q : List E} {a : Nat} {e : E} (h : LangAt l k Q a k) (he : Q[a]? = some e) : LangAt l k Q (a + 1) 0 := by
  have hlt := (List.getElem?_eq_some_iff.1 he).1
  refine ⟨h.nodup, h.head, h.good, hlt, fun i e1 x e2 hi h1 hx h2 => ?_, fun _ x _ _ hx => by omega⟩
  by_cases hia : i = a
  · subst hia; exact h.mid e1 x e2 h1 hx h2
  · exact h.done i e1 x e2 (by omega) h1 hx h2
/-- All ends of a system's reduced words. -/
structure Ends (l : List R) (k : Nat) (Q : List E) : Prop where
  nodup : Q.Nodup
  zero : (0, 0) ∈ Q
  good : ∀ e ∈ Q, GoodE l e
  next : ∀ e x e', e ∈ Q → x < k → nxtS l e x = some e' → e' ∈ Q
theorem LangAt.ends {l : List R} {k : Nat} {Q : List E} (h : LangAt l k Q Q.length 0) : Ends l k Q :=
  ⟨h.nodup, List.mem_of_getElem? h.head, h.good, fun e x e' he hx hn => by
    obtain ⟨i, hi, rfl⟩ := List.getElem_of_mem he
    exact h.done i _ x e' hi (List.getElem?_eq_getElem _) hx hn⟩
theorem Ends.len {l : List R} {k : Nat} {Q : List E} (h : Ends l k Q) (hl : ∀ r ∈ l, r.1.size ≤ 8) (h12 : l.length ≤ 12) : Q.length ≤ 108 :=
  e_nodup_len Q h.nodup (fun e he => (h.good e he).lt hl h12)
/-- What the moves hold then. -/
def aftF (l : List R) (k : Nat) (Q : List E) (a j : Nat) (e : E) (x : Nat) : Option E := if (e ∈ Q.take a ∧ x < k) ∨ (Q[a]? = some e ∧ x < j) then nxtS l e x else none
/-- .. and at the end. -/
def aftQ (l : List R) (k : Nat) (Q : List E) (e : E) (x : Nat) : Option E := if e ∈ Q ∧ x < k then nxtS l e x else none
theorem aftF_start (l : List R) (k : Nat) (Q : List E) : aftF l k Q 0 0 = fun _ _ => none := by
  funext e x; unfold aftF; rw [if_neg]; rintro (⟨h, _⟩ | ⟨_, h⟩)
  · simp at h
  · omega
theorem aftF_grown (l : List R) (k : Nat) (Q : List E) (a j : Nat) (e' : E) (ha : a < Q.length) : aftF l k (Q ++ [e']) a j = aftF l k Q a j := by
  funext e x; unfold aftF
  rw [List.take_append_of_le_length (by omega), List.getElem?_append_left ha]
theorem not_mem_take {Q : List E} {a : Nat} {e : E} (hd : Q.Nodup) (he : Q[a]? = some e) : e ∉ Q.take a := by
  intro hm
  obtain ⟨i, hi, hie⟩ := List.getElem_of_mem hm
  rw [List.length_take] at hi
  rw [List.getElem_take] at hie
  obtain ⟨ha, hae⟩ := List.getElem?_eq_some_iff.1 he
  have := (List.nodup_iff_pairwise_ne.1 hd)
  rw [List.pairwise_iff_getElem] at this
  exact this i a (by omega) ha (by omega) (by rw [hie, hae])
theorem aftF_step {l : List R} {k : Nat} {Q : List E} {a j : Nat} {e : E} (hd : Q.Nodup) (he : Q[a]? = some e) (e1 : E) (x : Nat) :
    aftF l k Q a (j + 1) e1 x = if e1 = e ∧ x = j then nxtS l e j else aftF l k Q a j e1 x := by
  have hnm := not_mem_take hd he
  unfold aftF
  by_cases h : e1 = e ∧ x = j
  · obtain ⟨rfl, rfl⟩ := h
    rw [if_pos (.inr ⟨he, by omega⟩), if_pos ⟨rfl, rfl⟩]
  · rw [if_neg h, he]
    congr 1
    refine propext ⟨?_, ?_⟩
    · rintro (h1 | ⟨h1, h2⟩)
      · exact .inl h1
      · injection h1 with h1
        exact .inr ⟨by rw [h1], by
          by_cases hxj : x = j
          · exact absurd ⟨h1.symm, hxj⟩ h
          · omega⟩
    · rintro (h1 | ⟨h1, h2⟩)
      · exact .inl h1
      · exact .inr ⟨h1, by omega⟩
theorem aftF_none {l : List R} {k : Nat} {Q : List E} {a j : Nat} {e : E} (hd : Q.Nodup) (he : Q[a]? = some e) (hn : nxtS l e j = none) : aftF l k Q a (j + 1) = aftF l k Q a j := by
  funext e1 x
  rw [aftF_step hd he]
  split
  · rename_i h
    obtain ⟨rfl, rfl⟩ := h
    rw [hn]
    unfold aftF
    rw [if_neg]
    rintro (⟨h1, _⟩ | ⟨_, h1⟩)
    · exact not_mem_take hd he h1
    · omega
  · rfl
theorem take_mem_succ {Q : List E} {a : Nat} {e e1 : E} (he : Q[a]? = some e) : e1 ∈ Q.take (a + 1) ↔ e1 ∈ Q.take a ∨ e1 = e := by
  obtain ⟨ha, hae⟩ := List.getElem?_eq_some_iff.1 he
  rw [List.take_succ_eq_append_getElem ha, hae, List.mem_append, List.mem_singleton]
theorem aftF_round {l : List R} {k : Nat} {Q : List E} {a : Nat} {e : E} (he : Q[a]? = some e) : aftF l k Q a k = aftF l k Q (a + 1) 0 := by
  funext e1 x
  unfold aftF
  rw [he]
  simp only [take_mem_succ he]
  congr 1
  refine propext ⟨?_, ?_⟩
  · rintro (⟨h1, h2⟩ | ⟨h1, h2⟩)
    · exact .inl ⟨.inl h1, h2⟩
    · injection h1 with h1; exact .inl ⟨.inr h1.symm, h2⟩
  · rintro (⟨h1 | h1, h2⟩ | ⟨_, h2⟩)
    · exact .inl ⟨h1, h2⟩
    · exact .inr ⟨by rw [h1], h2⟩
    · omega
theorem aftF_end (l : List R) (k : Nat) (Q : List E) : aftF l k Q Q.length 0 = aftQ l k Q := by
  funext e x
  unfold aftF aftQ
  rw [List.take_length]
  congr 1
  refine propext ⟨?_, ?_⟩
  · rintro (h | ⟨_, h⟩)
    · exact h
    · omega
  · exact .inl

/-- A number of words as an int holds it. -/
def wr (n : Nat) : Int := IntKind.wrap .i64 n
theorem wr_zero : wr 0 = 0 := by unfold wr; rw [IntKind.wrap_i64]; omega
theorem wr_one : wr 1 = 1 := by unfold wr; rw [IntKind.wrap_i64]; omega
def someIf (n : Nat) : Option Int := if 0 < n then some (wr n) else none
/-- What the tally for n letters holds. -/
def talF (l : List R) (k : Nat) (Q : List E) (n : Nat) (e : E) : Option Int := if e ∈ Q then someIf (cntE l k n e) else none
/-- .. while it is made: the first a ends are through, and of the next one the first j letters. -/
def talTo (l : List R) (k : Nat) (Q : List E) (n a j : Nat) (e : E) : Option Int := if e ∈ Q.take a then someIf (cntE l k (n + 1) e) else if Q[a]? = some e then someIf (cntToE l k n e j) else none
theorem talTo_start (l : List R) (k : Nat) (Q : List E) (n : Nat) : talTo l k Q n 0 0 = fun _ => none := by
  funext e; unfold talTo; rw [if_neg (by simp)]
  split
  · rfl
  · rfl
theorem talTo_step {l : List R} {k : Nat} {Q : List E} {n a j : Nat} {e : E} (hd : Q.Nodup) (he : Q[a]? = some e) (e1 : E) :
    talTo l k Q n a (j + 1) e1 = if e1 = e then someIf (cntToE l k n e (j + 1)) else talTo l k Q n a j e1 := by
  have hnm := not_mem_take hd he
  unfold talTo
  by_cases h : e1 = e
  · subst h
    rw [if_neg hnm, if_pos he, if_pos rfl]
  · rw [if_neg h]
    split
    · rfl
    · rw [he, if_neg (fun e2 => h (by injection e2 with e2; exact e2.symm)), if_neg (fun e2 => h (by injection e2 with e2; exact e2.symm))]
theorem talTo_at {l : List R} {k : Nat} {Q : List E} {n a j : Nat} {e : E} (hd : Q.Nodup) (he : Q[a]? = some e) : talTo l k Q n a j e = someIf (cntToE l k n e j) := by
  unfold talTo
  rw [if_neg (not_mem_take hd he), if_pos he]
theorem talTo_same {l : List R} {k : Nat} {Q : List E} {n a j : Nat} {e : E} (hd : Q.Nodup) (he : Q[a]? = some e) (h : cntToE l k n e (j + 1) = cntToE l k n e j) : talTo l k Q n a (j + 1) = talTo l k Q n a j := by
  funext e1
  rw [talTo_step hd he]
  split
  · rename_i h1; subst h1; rw [talTo_at hd he, h]
  · rfl
theorem talTo_round {l : List R} {k : Nat} {Q : List E} {n a : Nat} {e : E} (hd : Q.Nodup) (he : Q[a]? = some e) : talTo l k Q n a k = talTo l k Q n (a + 1) 0 := by
  funext e1
  have hnm := not_mem_take hd he
  unfold talTo
  by_cases h : e1 = e
  · subst h
    rw [if_neg hnm, if_pos he, if_pos ((take_mem_succ he).2 (.inr rfl))]; rfl
  · by_cases h2 : e1 ∈ Q.take a
    · rw [if_pos h2, if_pos ((take_mem_succ he).2 (.inl h2))]
    · rw [if_neg h2, if_neg (fun h3 => ((take_mem_succ he).1 h3).elim h2 h), he, if_neg (fun e2 => h (by injection e2 with e2; exact e2.symm))]
      split
      · rfl
      · rfl
theorem talTo_end (l : List R) (k : Nat) (Q : List E) (n : Nat) : talTo l k Q n Q.length 0 = talF l k Q (n + 1) := by
  funext e
  unfold talTo talF
  rw [List.take_length]
  split
  · rfl
  · rw [if_neg (by simp)]
/-- .. while the first one is made. -/
def talOne (Q : List E) (a : Nat) (e : E) : Option Int := if e ∈ Q.take a then some 1 else none
theorem talOne_start (Q : List E) : talOne Q 0 = fun _ => none := by funext e; simp [talOne]
theorem talOne_step {Q : List E} {a : Nat} {e : E} (he : Q[a]? = some e) (e1 : E) : talOne Q (a + 1) e1 = if e1 = e then some 1 else talOne Q a e1 := by
  unfold talOne
  by_cases h : e1 = e
  · rw [if_pos h, if_pos ((take_mem_succ he).2 (.inr h))]
  · rw [if_neg h]
    by_cases h2 : e1 ∈ Q.take a
    · rw [if_pos h2, if_pos ((take_mem_succ he).2 (.inl h2))]
    · rw [if_neg h2, if_neg (fun h3 => ((take_mem_succ he).1 h3).elim h2 h)]
theorem talOne_end (l : List R) (k : Nat) (Q : List E) : talOne Q Q.length = talF l k Q 0 := by
  funext e
  unfold talOne talF
  rw [List.take_length]
  have h1 : someIf (cntE l k 0 e) = some 1 := by
    rw [show cntE l k 0 e = 1 from rfl]
    unfold someIf
    rw [if_pos Nat.one_pos, wr_one]
  rw [h1]
/-- How many reduced words of n letters there are. -/
def countN (l : List R) (k n : Nat) : Nat := cntE l k n (0, 0)
theorem someIf_getD (n : Nat) : (someIf n).getD 0 = wr n := by
  unfold someIf
  by_cases h : 0 < n
  · rw [if_pos h, Option.getD_some]
  · rw [if_neg h, Option.getD_none, Nat.eq_zero_of_not_pos h, wr_zero]
theorem talF_zero {l : List R} {k : Nat} {Q : List E} (h : Ends l k Q) (n : Nat) : ((talF l k Q n (0, 0)).getD 0) = wr (countN l k n) := by
  unfold talF countN
  rw [if_pos h.zero, someIf_getD]
theorem wr_add (a b : Nat) : IntKind.wrap .i64 (wr a + wr b) = wr (a + b) := by
  unfold wr
  rw [IntKind.wrap_i64, IntKind.wrap_i64, IntKind.wrap_i64, IntKind.wrap_i64]
  omega
/-- A number that is added to what is there. -/
theorem someIf_add (a b : Nat) (hb : 0 < b) : some (IntKind.wrap .i64 ((someIf a).getD 0 + wr b)) = someIf (a + b) := by
  rw [someIf_getD, wr_add]
  unfold someIf
  rw [if_pos (by omega)]
end Go.Proofs.YtfkojahoaljiaaaDoor

namespace Go.Proofs.YtfkojahoaljiaaaDoor
open Go.RowKit Go.Joins

theorem someInt32 : (Tryd.prog.underlying 21).isSome = true := by kernel_rfl
/-- string(rune('a' + q)) -/
theorem letter_text (q : Nat) (h : q < 4) : ∃ b : ByteArray, b.size = 1 ∧ ⟨#[UInt8.ofNat (97 + q)]⟩ = b ∧ ∀ w, (convert 21 9 (.int .i32 (97 + (q : Int)))).run Tryd.prog w = .ok (.string b) w := by
  have he : Utf8.encode (97 + (q : Int)) = ⟨#[UInt8.ofNat (97 + q)]⟩ := by
    match q, h with
    | 0, _ => decide +kernel
    | 1, _ => decide +kernel
    | 2, _ => decide +kernel
    | 3, _ => decide +kernel
  refine ⟨⟨#[UInt8.ofNat (97 + q)]⟩, rfl, rfl, fun w => ?_⟩
  rw [← he]
  exact run_convert_int_string (P := Tryd.prog) w 21 9 .i32 (97 + (q : Int)) someInt32 Tryd.underlying9

end Go.Proofs.YtfkojahoaljiaaaDoor

namespace Go.Proofs.YtfkojahoaljiaaaDoor
open Go.RowKit

abbrev endV (e : E) : Value := .agg #[.int .i64 e.1, .int .i64 e.2]
theorem endEqParts (a b c d : Int) : (a == c && b == d) = decide (a = c ∧ b = d) := by
  by_cases h1 : a = c <;> by_cases h2 : b = d <;> simp [h1, h2]
theorem run_eqlEnd (a b c d : Int) (w : World) : (binOp .eql 79 (.agg #[.int .i64 a, .int .i64 b]) (.agg #[.int .i64 c, .int .i64 d])).run Tryd.prog w = .ok (.bool (decide (a = c ∧ b = d))) w := by
  rw [run_eql_struct, run_equalIn_agg w _ _ _ _ (by kernel_rfl) (by kernel_rfl), ← endEqParts]
  simp [go_sem, Program.fieldsOf, Tryd.underlying79, Tryd.underlying3]
  by_cases h1 : a = c <;> by_cases h2 : b = d <;> simp [h1, h2]
theorem eqE (e f : E) : decide ((e.1 : Int) = (f.1 : Int) ∧ (e.2 : Int) = (f.2 : Int)) = decide (e = f) := by
  rcases e with ⟨a, b⟩
  rcases f with ⟨c, d⟩
  simp only [Prod.mk.injEq]
  by_cases h1 : a = c <;> by_cases h2 : b = d <;> simp [h1, h2] <;> omega

set_option maxRecDepth 100000 in
set_option maxHeartbeats 800000 in
theorem textE_any (k : Int) (A : Option Addr) (n c B : Nat) (l : List R) (e : E) (w : World) (h : Own B w (.slice A n c) 2 n (rulesC l)) (he : GoodE l e) (hl : ∀ r ∈ l, r.1.size ≤ 8) :
    Calls Tryd.prog 75 #[endV e, .agg #[.int .i64 k, .slice A n c]] w fun x w' => x = .returned (.string (textE l e)) ∧ Below w.heap.size w w' := by
  have hmax := h.bound
  unfold maxLen at hmax
  obtain ⟨i, m⟩ := e
  have heq := fun w' => run_eqlEnd i m 0 0 w'
  rcases he with h0 | ⟨h1, r, hr, h2⟩
  · injection h0 with h1 h2
    subst h1
    subst h2
    have hd : decide (((0 : Nat) : Int) = 0 ∧ ((0 : Nat) : Int) = 0) = true := by decide
    rw [hd] at heq
    rw [textE_zero]
    clear hd
    go_enter Tryd.func75, Tryd.ntmps75
    go_wp2_with fail
    go_ret
    exact ⟨rfl, bel2 _ _ _⟩
  · dsimp only at h1 hr h2
    have hin : i < n := by have := h.rlen; have := (List.getElem?_eq_some_iff.1 hr).1; omega
    have hd : decide ((i : Int) = 0 ∧ (m : Int) = 0) = false := decide_eq_false (fun h => by omega)
    rw [hd] at heq
    have hrs := hl r (List.mem_of_getElem? hr)
    rw [textE_some h1 hr]
    clear hd
    obtain ⟨g, off, c0, hv⟩ := h.formR (by omega)
    obtain ⟨rfl, rfl⟩ : A = some ⟨g, off, none⟩ ∧ c = c0 := by injection hv with a _ b; exact ⟨a, b⟩
    clear hv
    have h2' := h.below (bel2 w (.cells #[.int .i64 i, .int .i64 m] 79) (.cells #[.int .i64 k, .slice (some ⟨g, off, none⟩) n c] 25))
    obtain ⟨-, hgl, ⟨a, b⟩, hr3, y0, y1, -, -⟩ := h2'.rule hin
    obtain rfl : r = (a, b) := by rw [hr] at hr3; exact Option.some.inj hr3
    clear hr3 h2' h hr hl
    go_enter Tryd.func75, Tryd.ntmps75
    go_wp2_with fail
    go_quiet (fail)
    go_wp2_with fail
    go_ret
    exact ⟨rfl, below_drewN (bel2 _ _ _) _⟩

theorem hasSuffix2_any (s p : ByteArray) (w : World) (hs : s.size ≤ 1048576) :
    Calls Tryd.prog 83 #[.string s, .string p] w fun e w' => e = .returned (.bool (sufS s p)) ∧ w = w' := by
  by_cases h : p.size ≤ s.size
  · have He := Lib.hid (show ((s.extract (s.size - p.size) s.size).toList == p.toList) = sufS s p by unfold sufS; rw [decide_eq_true h, Bool.true_and])
    go_enter Tryd.func83, Tryd.ntmps83
    go_wp2_with fail
    all_goals (go_ret; exact ⟨ret_bool He.out, rfl⟩)
  · have He := Lib.hid (show false = sufS s p by unfold sufS; rw [decide_eq_false h, Bool.false_and])
    go_enter Tryd.func83, Tryd.ntmps83
    go_wp2_with fail
    go_ret
    exact ⟨ret_bool He.out, rfl⟩
theorem hasSuffix_any (s p : ByteArray) (w : World) (hs : s.size ≤ 1048576) :
    Calls Tryd.prog 76 #[.string s, .string p] w fun e w' => e = .returned (.bool (sufS s p)) ∧ w = w' := by
  go_enter Tryd.func76, Tryd.ntmps76
  go_wp2_with fail
  refine (hasSuffix2_any s p _ hs).mono ?_
  rintro e w' ⟨rfl, rfl⟩
  go_wp2_with fail
  go_ret
  exact ⟨rfl, rfl⟩

set_option maxRecDepth 100000 in
set_option maxHeartbeats 1600000 in
theorem endOf_any (k : Int) (A : Option Addr) (n c B : Nat) (l : List R) (t : ByteArray) (w : World) (h : Own B w (.slice A n c) 2 n (rulesC l)) (ht : t.size ≤ 1048576) :
    Calls Tryd.prog 77 #[.agg #[.int .i64 k, .slice A n c], .string t] w fun x w' => x = .returned (endV (endOfS l t)) ∧ Below w.heap.size w w' := by
  have hmax := h.bound
  unfold maxLen at hmax
  have Hlen := Lib.hid h.rlen
  have HO := Lib.hid h
  clear h
  go_enter Tryd.func77, Tryd.ntmps77
  go_wp2_with fail
  go_loopw [10] (fun i wr => ∃ q : Nat, i = .int .i64 q ∧ q ≤ t.size ∧ Hid (∀ j, j < q → ruleAt l t j = none) ∧ Hid (Blk wr w.heap.size 25 #[.int .i64 k, .slice A n c]) ∧ Hid (Blk wr (w.heap.size + 1) 79 #[.int .i64 0, .int .i64 0]) ∧ Below w.heap.size w wr) (fun i _ => t.size - (intOf i).toNat)
  case atStart => exact ⟨0, rfl, Nat.zero_le _, fun j hj => by omega, (Blk.new1 _ _ _).alloc _, Blk.new2 _ _ _ _, bel2 _ _ _⟩
  case round =>
    obtain ⟨q, rfl, hq, HN, HB, HE, hb⟩ := hrel
    have hbs := hb.size
    obtain ⟨s0, s1, -, -, sl⟩ := HB.out.two
    by_cases hqs : q < t.size
    · go_wp2_with fail
      clear s0 s1 sl hbs
      obtain ⟨w0, hw0⟩ : ∃ x : World, x = wr := ⟨_, rfl⟩
      clear hw0
      go_loopw [16] (fun i wx => ∃ j : Nat, i = .int .i64 j ∧ j ≤ n ∧ Hid (∀ j' r', j' < j → l[j']? = some r' → begS r'.1 (t.extract q t.size) = false) ∧ Hid (Blk wx w.heap.size 25 #[.int .i64 k, .slice A n c]) ∧ Hid (Blk wx (w.heap.size + 1) 79 #[.int .i64 0, .int .i64 0]) ∧ Below w.heap.size w wx) (fun i _ => n - (intOf i).toNat)
      case atStart => exact ⟨0, rfl, Nat.zero_le _, fun j r' hj => by omega, HB, HE, hb⟩
      case round =>
        clear HB hb HE
        obtain ⟨j, rfl, hj, HM, HB, HE, hb⟩ := hrel
        have hbs := hb.size
        by_cases hlt : j < n
        · obtain ⟨g, off, c0, hv⟩ := HO.out.formR (by omega)
          obtain ⟨rfl, rfl⟩ : A = some ⟨g, off, none⟩ ∧ c = c0 := by injection hv with a _ b; exact ⟨a, b⟩
          clear hv
          obtain ⟨-, hgl, ⟨u, v⟩, hr, x0, x1, -, -⟩ := (HO.out.below hb).rule hlt
          have Hr := Lib.hid hr
          clear hr
          have b1 := Lib.hid (hb.alloc hbs (.cells #[.string u, .string v] 70))
          have HB1 := Lib.hid (HB.out.alloc (.cells #[.string u, .string v] 70))
          have HE1 := Lib.hid (HE.out.alloc (.cells #[.string u, .string v] 70))
          obtain ⟨r0, r1, -, -, rl⟩ := (Blk.new1 wr #[.string u, .string v] 70).two
          go_wp2_with fail
          clear x0 x1 hgl
          generalize wr.alloc (.cells #[.string u, .string v] 70) = w1 at *
          go_region_held3 (fun w' => w'.cell? ⟨wr.heap.size, 0, none⟩ = some (.string u) ∧ w'.cell? ⟨wr.heap.size, 1, none⟩ = some (.string v) ∧ Hid (Blk w' w.heap.size 25 #[.int .i64 k, .slice (some ⟨g, off, none⟩) n c]) ∧ Hid (Blk w' (w.heap.size + 1) 79 #[.int .i64 0, .int .i64 0]) ∧ Below w.heap.size w w')
            (first | exact ⟨r0, r1, HB1, HE1, b1.out.drew⟩ | assumption)
            ((go_at_call 80; refine (beginsWith_any _ _ _).mono ?_; rintro e w' ⟨rfl, rfl⟩))
          have hS := ‹_ ∧ _ ∧ _ ∧ _ ∧ Below w.heap.size w w1.drew›
          obtain ⟨-, -, HB2, HE2, b2⟩ := hS
          generalize w1.drew = w2 at *
          have hb2 := b2.size
          cases hbb : begS u (t.extract q t.size)
          · have HM2 : Hid (∀ j' r', j' < j + 1 → l[j']? = some r' → begS r'.1 (t.extract q t.size) = false) := fun j' r' h1 h2 => by
              by_cases e : j' = j
              · subst e; rw [Hr.out] at h2; injection h2 with h2; subst h2; exact hbb
              · exact HM.out j' r' (by omega) h2
            clear hbb
            go_wp2_with fail
            go_roundw
            case rel => exact ⟨j + 1, by go_num, by omega, HM2, HB2, HE2, b2⟩
            case measure => simp [intOf]; omega
          · have Hit := Lib.hid (endOfS_hit hqs (ruleAt_hit Hr.out hbb HM.out) HN.out)
            obtain ⟨e0, e1, f0, f1, el⟩ := HE2.out.two
            clear hbb
            go_wp2_with fail
            refine bodyPost_ret (v := .agg #[.int .i64 j, .int .i64 ((t.size : Int) - q)]) (by simp [results, Tryd.results77, go_sem, *]) rfl ⟨?_, ?_⟩
            · rw [Hit.out, show ((t.size : Int) - q) = ((t.size - q : Nat) : Int) by omega]
            · exact (b2.setCell (by simp) _).setCell (by simp) _
        · obtain rfl : j = n := by omega
          have HN2 : Hid (∀ j', j' < q + 1 → ruleAt l t j' = none) := fun j' h1 => by
            by_cases e : j' = q
            · subst e; exact ruleAt_none (fun i r' h2 h3 => HM.out i r' (by rw [← Hlen.out]; exact h2) h3)
            · exact HN.out j' (by omega)
          go_wp2_with fail
          go_roundw
          case rel => exact ⟨q + 1, by go_num, by omega, HN2, HB, HE, hb⟩
          case measure => simp [intOf]; omega
    · obtain rfl : q = t.size := by omega
      have Hit := Lib.hid (endOfS_miss HN.out)
      obtain ⟨e0, e1, f0, f1, el⟩ := HE.out.two
      go_wp2_with fail
      refine bodyPost_ret (v := .agg #[.int .i64 0, .int .i64 0]) (by simp [results, Tryd.results77, go_sem, *]) rfl ⟨?_, ?_⟩
      · rw [Hit.out]; rfl
      · exact (hb.setCell (by simp) _).setCell (by simp) _

/-- What endAfter answers. -/
def afterV (o : Option E) : Value := match o with | some e => .tuple #[endV e, .bool true] | none => .tuple #[endV (0, 0), .bool false]
theorem hit_step (l : List R) (t : ByteArray) (j : Nat) (r : R) (h : l[j]? = some r) : hitS (l.take (j + 1)) t = (hitS (l.take j) t || sufS t r.1) := by
  have hk := (List.getElem?_eq_some_iff.1 h).1
  have he := (List.getElem?_eq_some_iff.1 h).2
  rw [List.take_succ_eq_append_getElem hk, he]; simp [hitS]
theorem hit_yes {l : List R} {t : ByteArray} {j : Nat} {r : R} (h : l[j]? = some r) (hs : sufS t r.1 = true) : hitS l t = true := by
  unfold hitS
  rw [List.any_eq_true]; exact ⟨r, List.mem_of_getElem? h, hs⟩
set_option maxRecDepth 100000 in
set_option maxHeartbeats 1600000 in
theorem endAfter_any (k : Int) (A : Option Addr) (n c B : Nat) (l : List R) (e : E) (x : Nat) (w : World) (h : Own B w (.slice A n c) 2 n (rulesC l)) (he : GoodE l e) (hl : ∀ r ∈ l, r.1.size ≤ 8) (hx : x < 4) :
    Calls Tryd.prog 56 #[.agg #[.int .i64 k, .slice A n c], endV e, .int .u8 (97 + (x : Int))] w fun y w' => y = .returned (afterV (nxtS l e x)) ∧ Below w.heap.size w w' := by
  have hmax := h.bound
  unfold maxLen at hmax
  have Hlen := Lib.hid h.rlen
  have HO := Lib.hid h
  have HG := Lib.hid he
  have HL := Lib.hid hl
  have hts : (textE l e).size ≤ 8 := he.size hl
  obtain ⟨bb, hbs, hbx, hcv⟩ := letter_text x hx
  have Hb := Lib.hid (show textE l e ++ bb = ext1 (textE l e) x by unfold ext1; rw [hbx])
  clear h he hl hbx
  go_enter Tryd.func56, Tryd.ntmps56
  go_wp2_with fail
  refine (textE_any k A n c B l e _ (HO.out.below (bel3 _ _ _ _)) HG.out HL.out).mono ?_
  rintro y w1 ⟨rfl, hb1⟩
  have b1 := (bel3 w _ _ _).trans (hb1.mono (by simp; omega))
  have HS1 := Lib.hid ((((Blk.new1 w #[.int .i64 k, .slice A n c] 25).alloc _).alloc _).below hb1 (by simp; omega))
  have HR1 := Lib.hid ((Blk.new3 w _ _ #[.int .i64 0, .int .i64 0] 79).below hb1 (by simp))
  obtain ⟨s0, s1, -, -, sl⟩ := HS1.out.two
  clear hb1
  go_wp2_with fail
  clear s0 s1 sl
  have htl : (textE l e ++ bb).size ≤ 9 := by rw [ByteArray.size_append, hbs]; omega
  have HN : Hid (nxtS l e x = if hitS l (textE l e ++ bb) then none else some (endOfS l (textE l e ++ bb))) := by show _ = _; rw [Hb.out]; rfl
  generalize textE l e ++ bb = t at *
  go_loopw [21] (fun i wx => ∃ j : Nat, i = .int .i64 j ∧ j ≤ n ∧ Hid (hitS (l.take j) t = false) ∧ Hid (Blk wx w.heap.size 25 #[.int .i64 k, .slice A n c]) ∧ Hid (Blk wx (w.heap.size + 1 + 1) 79 #[.int .i64 0, .int .i64 0]) ∧ Below w.heap.size w wx) (fun i _ => n - (intOf i).toNat)
  case atStart => exact ⟨0, rfl, Nat.zero_le _, rfl, HS1, HR1, b1⟩
  case round =>
    obtain ⟨j, rfl, hj, HM, HB, HE, hb⟩ := hrel
    have hbs2 := hb.size
    by_cases hlt : j < n
    · obtain ⟨g, off, c0, hv⟩ := HO.out.formR (by omega)
      obtain ⟨rfl, rfl⟩ : A = some ⟨g, off, none⟩ ∧ c = c0 := by injection hv with a _ b; exact ⟨a, b⟩
      clear hv
      obtain ⟨-, hgl, ⟨u, v⟩, hr, x0, x1, -, -⟩ := (HO.out.below hb).rule hlt
      have Hr := Lib.hid hr
      clear hr
      have b2 := hb.alloc hbs2 (.cells #[.string u, .string v] 70)
      have HB2 := Lib.hid (HB.out.alloc (.cells #[.string u, .string v] 70))
      have HE2 := Lib.hid (HE.out.alloc (.cells #[.string u, .string v] 70))
      obtain ⟨r0, r1, -, -, rl⟩ := (Blk.new1 wr #[.string u, .string v] 70).two
      go_wp2_with fail
      clear x0 x1 hgl
      refine (hasSuffix_any t u _ (by omega)).mono ?_
      rintro y w2 ⟨rfl, rfl⟩
      generalize wr.alloc (.cells #[.string u, .string v] 70) = w3 at *
      have hb3 := b2.size
      have Hst := Lib.hid (hit_step l t j _ Hr.out)
      cases hbb : sufS t u
      · have HM2 : Hid (hitS (l.take (j + 1)) t = false) := by show _ = _; rw [Hst.out, HM.out, hbb]; rfl
        clear hbb
        go_wp2_with fail
        go_roundw
        case rel => exact ⟨j + 1, by go_num, by omega, HM2, HB2, HE2, b2⟩
        case measure => simp [intOf]; omega
      · have Hit := Lib.hid (hit_yes Hr.out hbb)
        obtain ⟨e0, e1, f0, f1, el⟩ := HE2.out.two
        clear hbb
        go_wp2_with fail
        refine bodyPost_ret (v := .tuple #[endV (0, 0), .bool false]) (by simp [results, Tryd.results56, go_sem, *]) rfl ⟨?_, ?_⟩
        · rw [HN.out, Hit.out]; rfl
        · exact (b2.setCell (by simp; omega) _).setCell (by simp; omega) _
    · have HM3 : Hid (hitS l t = false) := by
        have h1 := HM.out
        rw [List.take_of_length_le (by rw [Hlen.out]; omega)] at h1
        exact h1
      obtain ⟨s0, s1, -, -, sl⟩ := HB.out.two
      go_wp2_with fail
      clear s0 s1 sl
      refine (endOf_any k A n c B l t _ (HO.out.below hb) (by omega)).mono ?_
      rintro y w2 ⟨rfl, hb2⟩
      have b2 := hb.trans (hb2.mono hbs2)
      have hn2 : w.heap.size + 1 + 1 < wr.heap.size := HE.out.lt
      obtain ⟨e0, e1, f0, f1, el⟩ := (HE.out.below hb2 hn2).two
      clear hb2
      have HN2 : Hid (nxtS l e x = some (endOfS l t)) := by show _ = _; rw [HN.out, HM3.out]; rfl
      generalize endOfS l t = ee at *
      go_wp2_with fail
      refine bodyPost_ret (v := .tuple #[endV ee, .bool true]) (by simp [results, Tryd.results56, go_sem, *]) rfl ⟨?_, ?_⟩
      · rw [HN2.out]; rfl
      · exact (b2.setCell (by simp; omega) _).setCell (by simp; omega) _
end Go.Proofs.YtfkojahoaljiaaaDoor

namespace Go.Proofs.YtfkojahoaljiaaaDoor
open Go.RowKit Go.Maps Go.WideShapes
open Go.ChangeMaps (setBlock heap_setBlock_same heap_setBlock_other)

def heldE (v : Value) : Option (DataW Value × List MemPlace) := some (.held v, [])
theorem heldE_inv {v u : Value} {ps : List MemPlace} (h : heldE v = some (.held u, ps)) : v = u := by unfold heldE at h; injection h with h; injection h with h _; injection h

/-- How keys are read. -/
structure Keying (t : TypeId) (K : Type) where
  val : K → Value
  lit : K → Lit
  ok : K → Prop
  law : WideMaps.KeyLaw Tryd.prog t
  key : ∀ x, ok x → keyOf Tryd.prog t (val x) = some (lit x)
  inj : ∀ x y, ok x → ok y → val x = val y → x = y
section
variable {t : TypeId} {K : Type} (Y : Keying t K)
theorem Keying.isKey {x : K} (h : Y.ok x) : WideAt.IsKeyLit (Y.lit x) := (Keyed.of_law Y.law).key (Y.key x h)
theorem Keying.lit_ne {x y : K} (hx : Y.ok x) (hy : Y.ok y) (h : x ≠ y) : Y.lit x ≠ Y.lit y := fun e => by
  have h1 := Y.key x hx
  have h2 := Y.key y hy
  rw [← e] at h2
  exact h (Y.inj x y hx hy ((Keyed.of_law Y.law).inj h1 h2))

/-- Block b is a map that holds just F, written at most c times. -/
def MapOf (W : World) (b c : Nat) (F : K → Option Value) : Prop :=
  ∃ (N : Nat) (D : DataW Value), N ≤ c ∧ W.ownsMap Tryd.prog t heldE b N D ∧ IsMap D ∧
    ∀ x, Y.ok x → (∀ z, D.atKey (Y.lit x) z = (match F x with | some v => DataW.held v | none => z)) ∧ Maps.has D (Y.lit x) = (F x).isSome
theorem MapOf.lt {W : World} {b c : Nat} {F : K → Option Value} (h : MapOf Y W b c F) : b < W.heap.size := by obtain ⟨N, D, _, h1, _⟩ := h; exact h1.lt
theorem MapOf.mono {W : World} {b c c' : Nat} {F : K → Option Value} (h : MapOf Y W b c F) (hc : c ≤ c') : MapOf Y W b c' F := by
  obtain ⟨N, D, h0, h1⟩ := h; exact ⟨N, D, by omega, h1⟩
theorem MapOf.same {W W' : World} {b c : Nat} {F : K → Option Value} (h : MapOf Y W b c F) (hb : W'.heap[b]? = W.heap[b]?) : MapOf Y W' b c F := by
  obtain ⟨N, D, h0, ⟨es, clock, h1, h2⟩, h3⟩ := h
  exact ⟨N, D, h0, ⟨es, clock, hb.trans h1, h2⟩, h3⟩
theorem MapOf.below {W W' : World} {b c B : Nat} {F : K → Option Value} (h : MapOf Y W b c F) (hb : Below B W W') (hB : b < B) : MapOf Y W' b c F := h.same Y (hb.block b hB)
theorem MapOf.alloc {W : World} {b c : Nat} {F : K → Option Value} (h : MapOf Y W b c F) (o : Obj) : MapOf Y (W.alloc o) b c F := h.same Y (Below.heap_alloc W o b h.lt)
theorem MapOf.far {W : World} {b c : Nat} {F : K → Option Value} (h : MapOf Y W b c F) {p : Addr} (hp : b ≠ p.block) (u : Value) : MapOf Y (W.setCell p u) b c F := h.same Y (Below.heap_setCell W p u b hp)
theorem MapOf.congr {W : World} {b c : Nat} {F F' : K → Option Value} (h : MapOf Y W b c F) (hF : ∀ x, Y.ok x → F x = F' x) : MapOf Y W b c F' := by
  obtain ⟨N, D, h0, h1, h2, h3⟩ := h
  exact ⟨N, D, h0, h1, h2, fun x hx => by rw [← hF x hx]; exact h3 x hx⟩
theorem MapOf.made (W : World) : MapOf Y (W.alloc (.map #[] 0)) W.heap.size 0 (fun _ => none) :=
  ⟨0, .map [], Nat.le_refl _, World.ownsMap_made W _ _ _, isMap_empty, fun _ _ => ⟨fun _ => rfl, rfl⟩⟩
theorem MapOf.obj {W : World} {b c : Nat} {F : K → Option Value} (h : MapOf Y W b c F) : ∃ es clock, W.heap[b]? = some (.map es clock) := by
  obtain ⟨N, D, _, ⟨es, clock, hb, _⟩, _⟩ := h; exact ⟨es, clock, hb⟩
theorem MapOf.look_ok {W : World} {b c : Nat} {F : K → Option Value} (h : MapOf Y W b c F) {mt et : TypeId} (ht : Tryd.prog.underlying mt = some (.map t et)) {z : Value} (hz : (zeroValue et).run Tryd.prog W = .ok z W) {x : K} (hx : Y.ok x) :
    (Instr.lookup mt (.map (some b)) (Y.val x) true).run Tryd.prog W = .ok (.tuple #[(F x).getD z, .bool (F x).isSome]) W := by
  obtain ⟨N, D, h0, h1, h2, h3⟩ := h
  obtain ⟨v, ps, hrun, hv⟩ := h1.look_ok (Keyed.of_law Y.law) ht hz (zd := .held z) (zp := []) rfl (Y.key x hx)
  rw [hrun, (h3 x hx).2]
  rw [(h3 x hx).1] at hv
  cases hF : F x with
  | none => rw [hF] at hv; rw [heldE_inv hv]; rfl
  | some u => rw [hF] at hv; rw [heldE_inv hv]; rfl
theorem MapOf.look {W : World} {b c : Nat} {F : K → Option Value} (h : MapOf Y W b c F) {mt et : TypeId} (ht : Tryd.prog.underlying mt = some (.map t et)) {z : Value} (hz : (zeroValue et).run Tryd.prog W = .ok z W) {x : K} (hx : Y.ok x) :
    (Instr.lookup mt (.map (some b)) (Y.val x) false).run Tryd.prog W = .ok ((F x).getD z) W := by
  obtain ⟨N, D, h0, h1, h2, h3⟩ := h
  obtain ⟨v, ps, hrun, hv⟩ := h1.lookup (Keyed.of_law Y.law) ht hz (zd := .held z) (zp := []) rfl (Y.key x hx)
  rw [hrun]
  rw [(h3 x hx).1] at hv
  cases hF : F x with
  | none => rw [hF] at hv; rw [heldE_inv hv]; rfl
  | some u => rw [hF] at hv; rw [heldE_inv hv]; rfl
section
variable [DecidableEq K]
/-- F with one more. -/
def putF (F : K → Option Value) (x : K) (v : Value) : K → Option Value := fun y => if y = x then some v else F y
theorem MapOf.put_views {D : DataW Value} {F : K → Option Value} (h2 : IsMap D) (h3 : ∀ x, Y.ok x → (∀ z, D.atKey (Y.lit x) z = (match F x with | some v => DataW.held v | none => z)) ∧ Maps.has D (Y.lit x) = (F x).isSome)
    {x : K} (hx : Y.ok x) (v : Value) : ∀ y, Y.ok y → (∀ z, (D.put (Y.lit x) (.held v)).atKey (Y.lit y) z = (match putF F x v y with | some v => DataW.held v | none => z)) ∧ Maps.has (D.put (Y.lit x) (.held v)) (Y.lit y) = (putF F x v y).isSome := by
  intro y hy
  unfold putF
  by_cases e : y = x
  · subst e
    rw [if_pos rfl]
    exact ⟨fun z => atKey_put_same h2 (Y.isKey hx) _ z, has_put_same h2 (Y.isKey hx) _⟩
  · rw [if_neg e]
    have hne : Y.lit y ≠ Y.lit x := Y.lit_ne hy hx e
    exact ⟨fun z => (atKey_put_other hne _ z).trans ((h3 y hy).1 z), (has_put_other hne _).trans (h3 y hy).2⟩
theorem MapOf.put {W : World} {b c : Nat} {F : K → Option Value} (h : MapOf Y W b c F) {mt et : TypeId} (ht : Tryd.prog.underlying mt = some (.map t et)) (hc : c < maxLen) {x : K} (hx : Y.ok x) (v : Value) :
    ∃ W', (Instr.mapUpdate mt (.map (some b)) (Y.val x) v).run Tryd.prog W = .ok () W' ∧ MapOf Y W' b (c + 1) (putF F x v) ∧ W.grownBy W' (some b) := by
  obtain ⟨N, D, h0, h1, h2, h3⟩ := h
  obtain ⟨W', hrun, r1, r2⟩ := h1.update (Keyed.of_law Y.law) ht (by omega) (Y.key x hx) (d := .held v) (ps := []) rfl
  exact ⟨W', hrun, ⟨N + 1, _, by omega, r1, h2.put _ _, MapOf.put_views Y h2 h3 hx v⟩, r2⟩
set_option maxRecDepth 100000 in
/-- 'm[k] op= v': the entry, and the store behind it. -/
theorem MapOf.entry {W : World} {b c : Nat} {F : K → Option Value} (h : MapOf Y W b c F) {mt et : TypeId} (ht : Tryd.prog.underlying mt = some (.map t et)) {z : Value} (hz : ∀ W, (zeroValue et).run Tryd.prog W = .ok z W) (hc : c < maxLen) {x : K} (hx : Y.ok x) :
    ∃ (st : Nat) (W2 : World), (Instr.mapEntry mt (.map (some b)) (Y.val x)).run Tryd.prog W = .ok (.tuple #[(F x).getD z, .int .i64 st]) W2 ∧ W.mapTurned W2 b ∧ (Instr.lookup mt (.map (some b)) (Y.val x) false).run Tryd.prog W2 = .ok ((F x).getD z) W2 ∧
      ∀ val : Value, ∃ W4, (Instr.entryStore mt (.map (some b)) (.int .i64 st) val).run Tryd.prog W2 = .ok () W4 ∧ W2.mapTurned W4 b ∧ MapOf Y W4 b (c + 1) (putF F x val) := by
  have hall := h
  obtain ⟨N, D, h0, h1, h2, h3⟩ := h
  have h1' := h1
  obtain ⟨es, clock, hb, FF, hs, rfl⟩ := h1
  have hkey := Y.key x hx
  obtain ⟨v0, st, es1, clock1, hE, hcase, hS⟩ := WideElems.entry_then_store Y.law ht hz hb FF hkey
  have hat := (h3 x hx).1 (.held z)
  have hv0 : v0 = (F x).getD z := by
    have hv : DataW.atKey (.map ((es.toList.map (WideElems.rg Tryd.prog t heldE)).foldr DataW.insert [])) (Y.lit x) (.held z) = .held ((F x).getD z) := by
      rw [hat]; cases F x <;> rfl
    rcases fit_look false (Keyed.of_law Y.law) ht (hz W) hb FF hkey with ⟨-, hno, hat2⟩ | ⟨e0, y, hm, hk, -, hy, hat2, -⟩
    · rw [hat2 (.held z)] at hv
      injection hv with hv
      rcases hcase with ⟨e0, hm, hk, -⟩ | ⟨-, rfl⟩
      · exact absurd hk (hno e0 hm)
      · exact hv
    · have hy2 : y.1 = .held e0.val := by unfold heldE at hy; injection hy with hy; rw [← hy]
      rw [hat2 (.held z), hy2] at hv
      injection hv with hv
      rcases hcase with ⟨e1, hm1, hk1, rfl⟩ | ⟨hno, -⟩
      · rw [← hv]
        have hap : es.toList.Pairwise (fun x y => x.key ≠ y.key) := ((Go.MapKept.stamped_iff es clock).1 FF.stamped).2.2
        rw [List.pairwise_iff_getElem] at hap
        obtain ⟨i, hi, hie⟩ := List.getElem_of_mem hm
        obtain ⟨j, hj, hje⟩ := List.getElem_of_mem hm1
        have hij : i = j := by
          rcases Nat.lt_trichotomy i j with hlt | heq | hlt
          · exact absurd (by rw [hie, hje, hk, hk1]) (hap i j hi hj hlt)
          · exact heq
          · exact absurd (by rw [hie, hje, hk, hk1]) (hap j i hj hi hlt)
        subst hij
        rw [hie] at hje
        rw [hje]
      · exact absurd hk (hno e0 hm)
  subst hv0
  refine ⟨st, setBlock W b (.map es1 clock1), hE, ⟨es, clock, es1, clock1, hb, rfl⟩, ?_, fun val => ?_⟩
  · rcases Y.law.find W hkey es.toList FF.keys with ⟨f1, f2⟩ | ⟨j, e0, f1, f2, f3⟩
    · have hE' : (Instr.mapEntry mt (.map (some b)) (Y.val x)).run Tryd.prog W = .ok (.tuple #[z, goInt clock]) (setBlock W b (.map (es.push ⟨Y.val x, z, clock⟩) (clock + 1))) := by
        simp [Instr.mapEntry, run_underlying ht, MapKept.run_getObj_map hb, Y.law.check W false hkey, f1, hz, MapKept.run_setObj_map _ hb, Result.andThen, setBlock]
      have hU : (Instr.mapUpdate mt (.map (some b)) (Y.val x) z).run Tryd.prog W = .ok () (setBlock W b (.map (es.push ⟨Y.val x, z, clock⟩) (clock + 1))) := by
        simp [Instr.mapUpdate, run_underlying ht, MapKept.run_getObj_map hb, Y.law.check W false hkey, f1, MapKept.run_setObj_map _ hb, Result.andThen, setBlock]
      rw [hE] at hE'
      obtain ⟨e1, e2⟩ := Result.ok.inj hE'
      have e3 := congrArg (fun a : Array Value => a[0]?) (Value.tuple.inj e1)
      simp at e3
      obtain ⟨W', hrun, hM, -⟩ := hall.put Y ht hc hx z
      rw [hU] at hrun
      obtain ⟨-, e4⟩ := Result.ok.inj hrun
      rw [e2, e4]
      have := hM.look Y ht (hz _) hx
      rw [this, e3]
      unfold putF
      rw [if_pos rfl]; rfl
    · have hj : es[j]? = some e0 := by simpa using f2
      have hsame : es.modify j (fun e => { e with key := Y.val x }) = es := by
        apply Array.ext'
        rw [Array.toList_modify, Go.ChangeMaps.modify_eq_set _ _ _ _ f2]
        have : ({ e0 with key := Y.val x } : MapEntry) = e0 := by rw [← f3]
        rw [this]
        exact Go.WideElems.set_self _ _ _ f2
      have hE' : (Instr.mapEntry mt (.map (some b)) (Y.val x)).run Tryd.prog W = .ok (.tuple #[e0.val, goInt e0.born]) (setBlock W b (.map es clock)) := by
        simp [Instr.mapEntry, run_underlying ht, MapKept.run_getObj_map hb, Y.law.check W false hkey, f1, hj, f3, Y.law.stays W hkey, hsame, MapKept.run_setObj_map _ hb, Result.andThen, setBlock]
      rw [hE] at hE'
      obtain ⟨-, e2⟩ := Result.ok.inj hE'
      rw [e2]
      exact (hall.same Y (W' := setBlock W b (.map es clock)) (by rw [heap_setBlock_same hb, hb])).look Y ht (hz _) hx
  have hw3 : (setBlock W b (.map es1 clock1)).heap[b]? = some (.map es1 clock1) := heap_setBlock_same hb _
  obtain ⟨es', clock', hrun, hup⟩ := hS _ val hw3
  obtain ⟨W', hrun', hown', -⟩ := h1'.store (Keyed.of_law Y.law) ht (by omega) hkey (d := .held val) (ps := []) rfl
  rw [hup] at hrun'
  obtain rfl : W' = setBlock W b (.map es' clock') := (Result.ok.inj hrun').2.symm
  refine ⟨_, hrun, ⟨es1, clock1, es', clock', hw3, rfl⟩, N + 1, _, by omega, ?_, h2.put _ _, MapOf.put_views Y h2 h3 hx val⟩
  obtain ⟨es2, clock2, hb2, F2, hs2, hD2⟩ := hown'
  rw [heap_setBlock_same hb] at hb2
  refine ⟨es2, clock2, ?_, F2, hs2, hD2⟩
  rw [heap_setBlock_same hw3, hb2]
end
theorem MapOf.clear {W : World} {b c : Nat} {F : K → Option Value} (h : MapOf Y W b c F) {mt et : TypeId} (ht : Tryd.prog.underlying mt = some (.map t et)) (ty : TypeId) :
    ∃ W', (Builtin.clear_ #[mt] ty #[.map (some b)]).run Tryd.prog W = .ok (.tuple #[]) W' ∧ W.mapTurned W' b ∧ MapOf Y W' b 0 (fun _ => none) := by
  obtain ⟨es, clock, hb⟩ := h.obj
  refine ⟨setBlock W b (.map #[] clock), ?_, ⟨es, clock, #[], clock, hb, rfl⟩, 0, .map [], Nat.le_refl _, ⟨#[], clock, heap_setBlock_same hb _, ⟨by simp, MapKept.stamped_empty clock, by simp⟩, Nat.le_refl _, rfl⟩, isMap_empty, fun _ _ => ⟨fun _ => rfl, rfl⟩⟩
  simp [Builtin.clear_, run_underlying ht, MapKept.run_getObj_map hb, MapKept.run_setObj_map _ hb, Result.andThen, setBlock]
end
theorem endRow : 79 < Tryd.prog.types.size := of_decide_eq_true (by kernel_rfl)
theorem keyLawEnd : WideMaps.KeyLaw Tryd.prog 79 := deep_law_laid laidOut (m := 2) (by omega) endRow (by kernel_rfl) (by kernel_rfl)
theorem moveRow : 113 < Tryd.prog.types.size := of_decide_eq_true (by kernel_rfl)
theorem keyLawMove : WideMaps.KeyLaw Tryd.prog 113 := deep_law_laid laidOut (m := 3) (by omega) moveRow (by kernel_rfl) (by kernel_rfl)
def okE (e : E) : Prop := e.1 < 12 ∧ e.2 < 9
def litE (e : E) : Lit := .string (keyBytes [.int .i64 e.1, .int .i64 e.2])
theorem wfSmall (a : Nat) (h : a < 12) : (Lit.int .i64 (a : Int)).wf = true := by
  simp only [Lit.wf, IntKind.min, IntKind.max, IntKind.signed, IntKind.bits, Bool.and_eq_true, decide_eq_true_eq, if_true]
  omega
theorem key_end (e : E) (h : okE e) : keyOf Tryd.prog 79 (endV e) = some (litE e) := by
  have hk : Tryd.prog.keyType 79 = true := by kernel_rfl
  have hc : Tryd.prog.cellsOf 79 = 2 := by kernel_rfl
  have hs : Tryd.prog.cellsOf 3 = 1 := by kernel_rfl
  have hn : ∃ m, Tryd.prog.types.size + 1 = m + 1 + 1 := ⟨Tryd.prog.types.size - 1, by have := endRow; omega⟩
  have w1 := wfSmall e.1 h.1
  have w2 := wfSmall e.2 (by have := h.2; omega)
  obtain ⟨m, hm⟩ := hn
  unfold keyOf
  rw [Tryd.underlying79, hm]
  simp [Value.formed, Value.cells, hk, hc, hs, Program.keyLits, Tryd.underlying79, Tryd.underlying3, w1, w2, litE]
/-- Keys that are ends. -/
def endK : Keying 79 E := ⟨endV, litE, okE, keyLawEnd, key_end, fun x y _ _ h => by
  injection h with h
  have h1 := congrArg Array.toList h
  injection h1 with a b
  injection b with b _
  injection a with _ a
  injection b with _ b
  exact Prod.ext (by omega) (by omega)⟩
/-- A move: an end and a letter. -/
abbrev M := E × Nat
abbrev moveV (m : M) : Value := .agg #[.int .i64 m.1.1, .int .i64 m.1.2, .int .u8 (97 + (m.2 : Int))]
def okM (m : M) : Prop := okE m.1 ∧ m.2 < 4
def litM (m : M) : Lit := .string (keyBytes [.int .i64 m.1.1, .int .i64 m.1.2, .int .u8 (97 + (m.2 : Int))])
theorem wfLetter (a : Nat) (h : a < 4) : (Lit.int .u8 (97 + (a : Int))).wf = true := by
  match a, h with
  | 0, _ => decide
  | 1, _ => decide
  | 2, _ => decide
  | 3, _ => decide
theorem key_move (e : M) (h : okM e) : keyOf Tryd.prog 113 (moveV e) = some (litM e) := by
  have hk : Tryd.prog.keyType 113 = true := by kernel_rfl
  have hc : Tryd.prog.cellsOf 113 = 3 := by kernel_rfl
  have hce : Tryd.prog.cellsOf 79 = 2 := by kernel_rfl
  have hs : Tryd.prog.cellsOf 3 = 1 := by kernel_rfl
  have hl : Tryd.prog.cellsOf 110 = 1 := by kernel_rfl
  have hn : ∃ m, Tryd.prog.types.size + 1 = m + 1 + 1 + 1 := ⟨Tryd.prog.types.size - 2, by have := moveRow; omega⟩
  have w1 := wfSmall e.1.1 h.1.1
  have w2 := wfSmall e.1.2 (by have := h.1.2; omega)
  have w3 := wfLetter e.2 h.2
  obtain ⟨m, hm⟩ := hn
  unfold keyOf
  rw [Tryd.underlying113, hm]
  simp [Value.formed, Value.cells, hk, hc, hs, hce, hl, Program.keyLits, Tryd.underlying113, Tryd.underlying79, Tryd.underlying3, Tryd.underlying110, w1, w2, w3, litM]
  rw [if_pos (by decide)]
  rfl
def moveK : Keying 113 M := ⟨moveV, litM, okM, keyLawMove, key_move, fun x y _ _ h => by
  injection h with h
  have h1 := congrArg Array.toList h
  injection h1 with a b
  injection b with b c
  injection c with c _
  injection a with _ a
  injection b with _ b
  injection c with _ c
  exact Prod.ext (Prod.ext (by omega) (by omega)) (by omega)⟩
end Go.Proofs.YtfkojahoaljiaaaDoor

namespace Go.Proofs.YtfkojahoaljiaaaDoor
open Go.RowKit Go.Maps

def talV (T : E → Option Int) : E → Option Value := fun e => (T e).map (Value.int .i64)
/-- Block g is a tally whose map, block m, holds T. -/
def TalAt (W : World) (g m c : Nat) (T : E → Option Int) : Prop := Blk W g 120 #[.map (some m)] ∧ MapOf endK W m c (talV T)
theorem zeroInt (w : World) : (zeroValue 3).run Tryd.prog w = .ok (.int .i64 0) w := by kernel_rfl
theorem newTally_any (w : World) :
    Calls Tryd.prog 59 #[] w fun e w' => e = .returned (.pointer (some ⟨w.heap.size + 1, 0, none⟩)) ∧ w' = (w.alloc (.map #[] 0)).alloc (.cells #[.map (some w.heap.size)] 120) := by
  have hmm := @run_makeMap Tryd.prog
  go_enter Tryd.func59, Tryd.ntmps59
  go_wp2_with fail
  go_ret
  exact ⟨rfl, rfl⟩
/-- T with x at e. -/
def putT (T : E → Option Int) (e : E) (x : Int) : E → Option Int := fun f => if f = e then some x else T f
theorem putT_val (T : E → Option Int) (e : E) (x : Int) : putF (talV T) e (.int .i64 x) = talV (putT T e x) := by
  funext f
  unfold putF talV putT
  by_cases h : f = e <;> simp [h]
theorem talV_getD (T : E → Option Int) (e : E) : (talV T e).getD (.int .i64 0) = .int .i64 ((T e).getD 0) := by unfold talV; cases T e <;> rfl
theorem talV_isSome (T : E → Option Int) (e : E) : (talV T e).isSome = (T e).isSome := by unfold talV; cases T e <;> rfl
theorem TalAt.turn {S : List Nat} {W W' : World} {g m c : Nat} {T : E → Option Int} (h : TalAt W g m c T) (ht : Turn S W W') (hg : g ∉ S) (hm : m ∉ S) : TalAt W' g m c T := ⟨ht.blk h.1 hg, h.2.same endK (ht.block m h.2.lt hm)⟩
theorem TalAt.below {W W' : World} {B g m c : Nat} {T : E → Option Int} (h : TalAt W g m c T) (hb : Below B W W') (hg : g < B) (hm : m < B) : TalAt W' g m c T := ⟨h.1.below hb hg, h.2.below endK hb hm⟩
theorem TalAt.ne {W : World} {g m c : Nat} {T : E → Option Int} (h : TalAt W g m c T) : g ≠ m := fun e => by
  obtain ⟨es, clock, hb⟩ := h.2.obj endK
  have h1 := h.1
  unfold Blk at h1
  rw [e, hb] at h1; cases h1
theorem mapTurned_turn {W W' : World} {b : Nat} (h : W.mapTurned W' b) : Turn [b] W W' := turn_grown h.grown (List.mem_singleton.2 rfl)

set_option maxRecDepth 100000 in
set_option maxHeartbeats 800000 in
theorem add_any (g m c : Nat) (T : E → Option Int) (e : E) (x : Int) (w : World) (h : TalAt w g m c T) (he : okE e) (hc : c < 100000) :
    Calls Tryd.prog 60 #[.pointer (some ⟨g, 0, none⟩), endV e, .int .i64 x] w fun y w' =>
      (∃ v, y = .returned v) ∧ Turn [m] w w' ∧ TalAt w' g m (c + 1) (putT T e (wrap64 ((T e).getD 0 + x))) := by
  have hm := h.2.lt
  have hgm := h.ne
  have g1 : (w.alloc (.cells #[.int .i64 e.1, .int .i64 e.2] 79)).cell? ⟨g, 0, none⟩ = some (.map (some m)) := (h.1.alloc _).cell 0
  have M1 : MapOf endK (w.alloc (.cells #[.int .i64 e.1, .int .i64 e.2] 79)).drew m c (talV T) := (h.2.alloc endK _).same endK rfl
  have HB := Lib.hid h.1
  obtain ⟨st, W2, hE, ht2, hL2, hS⟩ := M1.entry endK (mt := 92) (et := 3) Tryd.underlying92 zeroInt (by unfold maxLen; omega) (x := e) he
  have hL := M1.look endK (mt := 92) (et := 3) Tryd.underlying92 (zeroInt _) (x := e) he
  rw [talV_getD] at hE hL hL2
  change Sem.run _ (Instr.mapEntry _ _ (.agg #[.int .i64 e.1, .int .i64 e.2])) _ = _ at hE
  change Sem.run _ (Instr.lookup _ _ (.agg #[.int .i64 e.1, .int .i64 e.2]) _) _ = _ at hL
  change Sem.run _ (Instr.lookup _ _ (.agg #[.int .i64 e.1, .int .i64 e.2]) _) _ = _ at hL2
  obtain ⟨W4, hst, ht4, hM4⟩ := hS (.int .i64 (wrap64 ((T e).getD 0 + x)))
  rw [putT_val] at hM4
  have HM4 := Lib.hid hM4
  have b1 : Below w.heap.size w (w.alloc (.cells #[.int .i64 e.1, .int .i64 e.2] 79)).drew := (bel1 w _).drew
  have HT := Lib.hid ((turn_below (S := [m]) b1).trans ((mapTurned_turn ht2).trans (mapTurned_turn ht4)))
  clear h M1 hS hM4 ht2 ht4 b1
  go_enter Tryd.func60, Tryd.ntmps60
  go_wp2_with fail
  go_region
  go_end0
  exact ⟨⟨_, rfl⟩, HT.out, HT.out.blk HB.out (by simpa using hgm), HM4.out⟩
set_option maxRecDepth 100000 in
set_option maxHeartbeats 800000 in
theorem number_any (g m c : Nat) (T : E → Option Int) (e : E) (w : World) (h : TalAt w g m c T) (he : okE e) :
    Calls Tryd.prog 41 #[.pointer (some ⟨g, 0, none⟩), endV e] w fun y w' => y = .returned (.tuple #[.int .i64 ((T e).getD 0), .bool (T e).isSome]) ∧ Below w.heap.size w w' := by
  have g1 : (w.alloc (.cells #[.int .i64 e.1, .int .i64 e.2] 79)).cell? ⟨g, 0, none⟩ = some (.map (some m)) := (h.1.alloc _).cell 0
  have M1 : MapOf endK (w.alloc (.cells #[.int .i64 e.1, .int .i64 e.2] 79)).drew m c (talV T) := (h.2.alloc endK _).same endK rfl
  have hL := M1.look_ok endK (mt := 92) (et := 3) Tryd.underlying92 (zeroInt _) (x := e) he
  rw [talV_getD, talV_isSome] at hL
  change Sem.run _ (Instr.lookup _ _ (.agg #[.int .i64 e.1, .int .i64 e.2]) _) _ = _ at hL
  clear h M1
  go_enter Tryd.func41, Tryd.ntmps41
  go_wp2_with fail
  go_region
  go_wp2_with fail
  go_ret2
  exact ⟨rfl, (bel1 w _).drew⟩
set_option maxRecDepth 100000 in
set_option maxHeartbeats 800000 in
theorem forget_any (g m c : Nat) (T : E → Option Int) (w : World) (h : TalAt w g m c T) :
    Calls Tryd.prog 62 #[.pointer (some ⟨g, 0, none⟩)] w fun y w' => (∃ v, y = .returned v) ∧ Turn [m] w w' ∧ TalAt w' g m 0 (fun _ => none) := by
  have hgm := h.ne
  have g0 : w.cell? ⟨g, 0, none⟩ = some (.map (some m)) := h.1.cell 0
  have HB := Lib.hid h.1
  obtain ⟨W', hrun, ht, hM⟩ := h.2.clear endK (mt := 92) Tryd.underlying92 0
  have HT := Lib.hid (mapTurned_turn ht)
  have HM := Lib.hid hM
  clear ht hM
  clear h
  go_enter Tryd.func62, Tryd.ntmps62
  go_wp2_with fail
  go_end0
  exact ⟨⟨_, rfl⟩, HT.out, HT.out.blk HB.out (by simpa using hgm), HM.out⟩
end Go.Proofs.YtfkojahoaljiaaaDoor

namespace Go.Proofs.YtfkojahoaljiaaaDoor
open Go.RowKit Go.Maps

def endsC (Q : List E) : List Value := stepsC (Q.map fun e => ((e.1 : Int), (e.2 : Int)))
theorem endsC_length (Q : List E) : (endsC Q).length = Q.length * 2 := by unfold endsC; rw [stepsC_length, List.length_map]
theorem Own.endAt {B n g off c : Nat} {w : World} {Q : List E} (h : Own B w (.slice (some ⟨g, off, none⟩) n c) 2 n (endsC Q)) {k : Nat} (hk : k < n) :
    B ≤ g ∧ g < w.heap.size ∧ ∃ e : E, Q[k]? = some e ∧ w.cell? ⟨g, off + k * 2, none⟩ = some (.int .i64 e.1) ∧ w.cell? ⟨g, off + k * 2 + 1, none⟩ = some (.int .i64 e.2) := by
  obtain ⟨h1, h2, r, hr, x0, x1, -, -⟩ := Own.step (l := Q.map fun e => ((e.1 : Int), (e.2 : Int))) h hk
  rw [List.getElem?_map] at hr
  cases he : Q[k]? with
  | none => rw [he] at hr; cases hr
  | some e =>
    rw [he] at hr
    injection hr with hr
    subst hr
    exact ⟨h1, h2, e, rfl, x0, x1⟩
theorem Own.elen {B n : Nat} {w : World} {v : Value} {Q : List E} (h : Own B w v 2 n (endsC Q)) : Q.length = n := by have := h.1; rw [endsC_length] at this; omega
theorem infoEnd : (Tryd.prog.info? 79).map (fun i => (i.zero, i.size, i.bytes)) = some (some (.agg #[.int .i64 0, .int .i64 0]), 2, 16) := by kernel_rfl
theorem mem_take_step {Q : List E} {j : Nat} {x e : E} (h : Q[j]? = some x) (hne : x ≠ e) (hn : e ∉ Q.take j) : e ∉ Q.take (j + 1) := by
  rw [take_mem_succ h]
  rintro (h1 | h1)
  · exact hn h1
  · exact hne h1.symm

set_option maxRecDepth 100000 in
set_option maxHeartbeats 800000 in
theorem indexE_any (A : Option Addr) (n c B : Nat) (Q : List E) (e : E) (w : World) (h : Own B w (.slice A n c) 2 n (endsC Q)) :
    Calls Tryd.prog 78 #[.slice A n c, endV e] w fun y w' => ∃ q : Int, y = .returned (.int .i64 q) ∧ Hid (decide (0 ≤ q) = decide (e ∈ Q)) ∧ Below w.heap.size w w' := by
  have hmax := h.bound
  have Hlen := Lib.hid h.elen
  unfold maxLen at hmax
  have HO := Lib.hid h
  clear h
  go_enter Tryd.func78, Tryd.ntmps78
  go_wp2_with fail
  go_loopw [8] (fun i wr => ∃ j : Nat, j ≤ n ∧ i = .int .i64 j ∧ Hid (e ∉ Q.take j) ∧ Hid (Blk wr w.heap.size 79 #[.int .i64 e.1, .int .i64 e.2]) ∧ Below w.heap.size w wr) (fun i _ => n - (intOf i).toNat)
  case atStart => exact ⟨0, Nat.zero_le _, rfl, (by simp : e ∉ Q.take 0), Blk.new1 _ _ _, bel1 _ _⟩
  case round =>
    obtain ⟨j, hj, rfl, HX, HB, hb⟩ := hrel
    have hbs := hb.size
    obtain ⟨q0, q1, -, -, ql⟩ := HB.out.two
    by_cases hlt : j < n
    · obtain ⟨g, off, c0, hv⟩ := HO.out.formR (by omega)
      obtain ⟨rfl, rfl⟩ : A = some ⟨g, off, none⟩ ∧ c = c0 := by injection hv with a _ b; exact ⟨a, b⟩
      clear hv
      obtain ⟨-, hgl, f, hr, x0, x1⟩ := (HO.out.below hb).endAt hlt
      have Hr := Lib.hid hr
      clear hr
      by_cases hd : f = e
      · have heq := fun w' => (run_eqlEnd e.1 e.2 f.1 f.2 w').trans (by rw [eqE, decide_eq_true hd.symm])
        have He := Lib.hid (show decide (e ∈ Q) = true from decide_eq_true (by rw [← hd]; exact List.mem_of_getElem? Hr.out))
        clear hd
        go_wp2_with fail
        go_quiet (fail)
        all_goals go_wp2_with fail
        go_ret
        exact ⟨j, rfl, by show decide _ = _; rw [He.out]; simp, below_drewN hb _⟩
      · have heq := fun w' => (run_eqlEnd e.1 e.2 f.1 f.2 w').trans (by rw [eqE, decide_eq_false (fun h => hd h.symm)])
        have HX2 : Hid (e ∉ Q.take (j + 1)) := mem_take_step Hr.out hd HX.out
        clear hd
        go_wp2_with fail
        go_quiet (fail)
        all_goals go_wp2_with fail
        go_roundw
        case rel => exact ⟨j + 1, by omega, by go_num, HX2, Blk.drewN HB.out _, below_drewN hb _⟩
        case measure => simp [intOf]; omega
    · have He := Lib.hid (show false = decide (e ∈ Q) by
        have h1 := HX.out
        rw [List.take_of_length_le (by rw [Hlen.out]; omega)] at h1
        exact (decide_eq_false h1).symm)
      go_wp2_with fail
      go_ret
      exact ⟨-1, rfl, by show decide _ = _; rw [← He.out]; rfl, hb⟩
set_option maxHeartbeats 800000 in
theorem containsE_any (A : Option Addr) (n c B : Nat) (Q : List E) (e : E) (w : World) (h : Own B w (.slice A n c) 2 n (endsC Q)) :
    Calls Tryd.prog 57 #[.slice A n c, endV e] w fun y w' => y = .returned (.bool (decide (e ∈ Q))) ∧ Below w.heap.size w w' := by
  have HO := Lib.hid (fun o1 => h.below (bel1 w o1))
  clear h
  go_enter Tryd.func57, Tryd.ntmps57
  go_wp2_with fail
  refine (indexE_any A n c B Q e _ (HO.out _)).mono ?_
  rintro y w1 ⟨q, rfl, He, hb1⟩
  have b1 := (bel1 w _).trans (hb1.mono (by simp))
  clear hb1
  go_wp2_with fail
  go_ret
  exact ⟨ret_bool He.out, b1⟩

def aftV (F : E → Nat → Option E) : M → Option Value := fun m => (F m.1 m.2).map fun e => endV e
/-- Block gL is a language: the ends Q, in a block from b0 on, and the moves F, in block mA. -/
structure LangS (W : World) (b0 gL mA k c : Nat) (Q : List E) (F : E → Nat → Option E) : Prop where
  row : ∃ A cap, Blk W gL 83 #[.int .i64 k, .slice A Q.length cap, .map (some mA)] ∧ W.ownsRow b0 79 2 (.slice A Q.length cap) Q.length (endsC Q)
  map : MapOf moveK W mA c (aftV F)
  bL : b0 ≤ gL
  bA : b0 ≤ mA

theorem after_form (o : Option E) : ∃ (u v : Nat) (cc : Bool), afterV o = .tuple #[.agg #[.int .i64 (u : Int), .int .i64 (v : Int)], .bool cc] ∧ o = if cc then some (u, v) else none := by
  cases o with
  | none => exact ⟨0, 0, false, rfl, rfl⟩
  | some e => exact ⟨e.1, e.2, true, rfl, rfl⟩
theorem aftV_none {F : E → Nat → Option E} (h : F = fun _ _ => none) : aftV F = fun _ => none := by subst h; rfl
theorem aftV_put {l : List R} {k : Nat} {Q : List E} {a j : Nat} {e e' : E} (hd : Q.Nodup) (he : Q[a]? = some e) (hn : nxtS l e j = some e') : putF (aftV (aftF l k Q a j)) (e, j) (endV e') = aftV (aftF l k Q a (j + 1)) := by
  funext m
  unfold putF aftV
  rw [aftF_step hd he]
  by_cases h : m = (e, j)
  · subst h
    rw [if_pos rfl, if_pos ⟨rfl, rfl⟩, hn]; rfl
  · rw [if_neg h, if_neg (fun h2 => h (Prod.ext h2.1 h2.2))]
theorem LangS.turn {W W' : World} {S : List Nat} {b0 gL mA k c : Nat} {Q : List E} {F : E → Nat → Option E} (h : LangS W b0 gL mA k c Q F) (ht : Turn S W W') (hS : ∀ b ∈ S, W.heap.size ≤ b) : LangS W' b0 gL mA k c Q F := by
  have hb : Below W.heap.size W W' := ht.below hS (Nat.le_refl _)
  obtain ⟨⟨A, cap, h1, h2⟩, h3, h4, h5⟩ := h
  exact ⟨⟨A, cap, h1.below hb h1.lt, ownsRow_below h2 hb⟩, h3.below moveK hb (h3.lt moveK), h4, h5⟩
theorem LangS.below {W W' : World} {b0 gL mA k c : Nat} {Q : List E} {F : E → Nat → Option E} (h : LangS W b0 gL mA k c Q F) (hb : Below W.heap.size W W') : LangS W' b0 gL mA k c Q F :=
  h.turn (S := []) (turn_below hb) (fun b hm => by cases hm)

/-- An end more, and its header stored: how all lies then. -/
theorem push_end {w w7 w9 : World} {b0 gL mA k c cc n g9 cp9 cap u v : Nat} {A A2 : Option Addr} {e : E} {Q : List E} {F : E → Nat → Option E} {s9 : Value} (hs9 : s9 = .slice (some ⟨g9, 0, none⟩) (Q.length + 1) cp9)
    (hB7 : Blk w7 gL 83 #[.int .i64 k, .slice A2 Q.length cap, .map (some mA)]) (hR7 : w7.ownsRow b0 79 2 (.slice A2 Q.length cap) Q.length (endsC Q)) (hM7 : MapOf moveK w7 mA c (aftV F)) (hbL : b0 ≤ gL) (hbA : b0 ≤ mA)
    (hS7 : Blk w7 w.heap.size 25 #[.int .i64 k, .slice A n cc]) (hF7 : Blk w7 (w.heap.size + 1) 79 #[.int .i64 e.1, .int .i64 e.2]) (hX : (Value.slice A2 Q.length cap).ownBlock ≠ some (w.heap.size + 1)) (hb : Below b0 w w7) (hB : b0 ≤ w.heap.size)
    (hgrow : (w7.alloc (.cells #[.int .i64 u, .int .i64 v] 79)).drew.grownBy w9 (Value.slice A2 Q.length cap).ownBlock)
    (hown : w9.ownsRow b0 79 2 (.slice (some ⟨g9, 0, none⟩) (Q.length + 1) cp9) (Q.length + 1) (endsC Q ++ [.int .i64 u, .int .i64 v])) (hat : (Value.slice A2 Q.length cap).ownBlock = some g9 ∨ g9 = w7.heap.size + 1) :
    LangS (w9.setCell ⟨gL, 1, none⟩ s9) b0 gL mA k c (Q ++ [(u, v)]) F ∧ Blk (w9.setCell ⟨gL, 1, none⟩ s9) w.heap.size 25 #[.int .i64 k, .slice A n cc] ∧
      Blk (w9.setCell ⟨gL, 1, none⟩ s9) (w.heap.size + 1) 79 #[.int .i64 e.1, .int .i64 e.2] ∧ Below b0 w (w9.setCell ⟨gL, 1, none⟩ s9) ∧ (∀ v', (w9.setCell ⟨gL, 1, none⟩ s9).cell? ⟨gL, 1, none⟩ = some v' → v'.ownBlock ≠ some (w.heap.size + 1)) := by
  have hbs := hb.size
  have hF7l := hF7.lt
  have hrowne : ∀ i o, w7.heap[i]? = some o → (∀ cs, o ≠ .cells cs 79 (0, 0)) → some i ≠ (Value.slice A2 Q.length cap).ownBlock := fun i o ho hne e => by
    rcases hR7.2 with ⟨h, _⟩ | ⟨g, cp, cur, h, _, hg, _⟩
    · rw [h] at e; cases e
    · rw [h] at e
      have e' : i = g := by simpa [Value.ownBlock] using e
      subst e'
      rw [hg] at ho; injection ho with ho
      exact hne _ ho.symm
  have h9 : ∀ i, i < w7.heap.size → some i ≠ (Value.slice A2 Q.length cap).ownBlock → w9.heap[i]? = w7.heap[i]? := fun i h1 h2 => (hgrow.block i (by simp; omega) h2).trans (Below.heap_alloc _ _ _ h1)
  have hXL : some gL ≠ (Value.slice A2 Q.length cap).ownBlock := hrowne gL _ hB7 (fun cs e => by injection e with _ e _; exact absurd e (by decide))
  have hB9 : Blk w9 gL 83 #[.int .i64 k, .slice A2 Q.length cap, .map (some mA)] := (h9 gL hB7.lt hXL).trans hB7
  have hg9L : g9 ≠ gL := fun e => by
    subst e
    rcases hat with h | h
    · exact hXL h.symm
    · have := hB7.lt; omega
  have B9 := hB9.set_ 1 s9
  have G9 : w9.grownBy (w9.setCell ⟨gL, 1, none⟩ s9) (some gL) := ⟨rfl, rfl, rfl, by simp [World.size_setCell], fun i _ hi => Below.heap_setCell _ _ _ i (fun e => hi (by rw [e]))⟩
  have R9 := hown.kept G9 (Or.inr (by simpa [Value.ownBlock] using hg9L))
  have hEq : endsC (Q ++ [(u, v)]) = endsC Q ++ [Value.int .i64 (u : Int), Value.int .i64 (v : Int)] := by simp [endsC, stepsC, stepC]
  have hmA9 : w9.heap[mA]? = w7.heap[mA]? := h9 mA (hM7.lt moveK) (by
    obtain ⟨es, clock, hm⟩ := hM7.obj moveK
    exact hrowne mA _ hm (fun cs e => by cases e))
  have hSA : Blk w9 w.heap.size 25 #[.int .i64 k, .slice A n cc] := (h9 _ hS7.lt (hrowne _ _ hS7 (fun cs e => by injection e with _ e _; exact absurd e (by decide)))).trans hS7
  have hFA : Blk w9 (w.heap.size + 1) 79 #[.int .i64 e.1, .int .i64 e.2] := (h9 _ hF7.lt (fun h => hX h.symm)).trans hF7
  have hbw : Below b0 w w9 := ((hb.trans ((bel1 w7 (.cells #[.int .i64 u, .int .i64 v] 79)).drew.mono (by omega)))).grown hgrow (by simp; omega) (fun i e => by have := ownsRow_ge hR7 e.symm; omega)
  have hgLA : gL ≠ mA := fun e => by
    obtain ⟨es, clock, hm⟩ := hM7.obj moveK
    unfold Blk at hB7
    rw [e, hm] at hB7; cases hB7
  have hSL : w.heap.size ≠ gL := fun e => by
    unfold Blk at hB7 hS7
    rw [e, hB7] at hS7; injection hS7 with h2; injection h2 with _ h2 _; exact absurd h2 (by decide)
  have hFL : w.heap.size + 1 ≠ gL := fun e => by
    unfold Blk at hB7 hF7
    rw [e, hB7] at hF7; injection hF7 with h2; injection h2 with _ h2 _; exact absurd h2 (by decide)
  refine ⟨⟨⟨some ⟨g9, 0, none⟩, cp9, ?_, ?_⟩, ?_, hbL, hbA⟩, hSA.far hSL _, hFA.far hFL _, hbw.setCell hbL _, fun v' hv' => ?_⟩
  · rw [List.length_append]; subst hs9; exact B9
  · rw [List.length_append, hEq]; exact R9
  · exact (hM7.same moveK hmA9).far moveK (p := ⟨gL, 1, none⟩) (Ne.symm hgLA) _
  · rw [B9.cell 1] at hv'
    have hv2 : s9 = v' := by injection hv'
    subst hv2
    subst hs9
    intro e
    have e' : g9 = w.heap.size + 1 := by simpa [Value.ownBlock] using e
    rcases hat with h | h
    · exact hX (by rw [h, e'])
    · omega

set_option maxRecDepth 100000 in
set_option maxHeartbeats 2000000 in
theorem addMoves_any (k : Nat) (A : Option Addr) (n c B : Nat) (l : List R) (b0 gL mA c0 a : Nat) (Q : List E) (e : E) (w : World) (hl : ∀ r ∈ l, r.1.size ≤ 8) (h12 : l.length ≤ 12) (hk : k ≤ 4) (hlet : ∀ w', Below b0 w w' → Let w')
    (hRb : ∀ w', Below b0 w w' → Own B w' (.slice A n c) 2 n (rulesC l)) (hB : b0 ≤ w.heap.size) (hL : LangS w b0 gL mA k c0 Q (aftF l k Q a 0)) (hat : LangAt l k Q a 0) (he : Q[a]? = some e) (hc : c0 < 100000) :
    Calls Tryd.prog 39 #[.pointer (some ⟨gL, 0, none⟩), .agg #[.int .i64 k, .slice A n c], endV e] w fun y w' => (∃ v, y = .returned v) ∧ ∃ Q', LangS w' b0 gL mA k (c0 + 4) Q' (aftF l k Q' (a + 1) 0) ∧ LangAt l k Q' (a + 1) 0 ∧ Below b0 w w' := by
  obtain ⟨i0, hi, hz0, hz1, hz2⟩ := infoR_parts infoEnd
  have hge := Lib.hid (hat.good e (List.mem_of_getElem? he))
  have hoe : okE e := hge.out.lt hl h12
  have HLet := Lib.hid hlet
  have HRb := Lib.hid hRb
  have Hl := Lib.hid hl
  have H12 := Lib.hid h12
  have hL0 := Lib.hid hL
  have hat0 := Lib.hid hat
  have he0 := Lib.hid he
  obtain ⟨⟨A2, cap, hblk, hrow⟩, -, -, -⟩ := hL
  have g0 : w.cell? ⟨gL, 0, none⟩ = some (.int .i64 k) := hblk.cell 0
  have hgl := hblk.lt
  have HX0 : Hid (∀ v, ((w.alloc (.cells #[.int .i64 k, .slice A n c] 25)).alloc (.cells #[.int .i64 e.1, .int .i64 e.2] 79)).cell? ⟨gL, 1, none⟩ = some v → v.ownBlock ≠ some (w.heap.size + 1)) := fun v hv hv2 => by
    rw [((hblk.alloc _).alloc _).cell 1] at hv
    injection hv with hv
    subst hv
    rcases hrow.2 with ⟨h, _⟩ | ⟨g, cp, cur, h, _, hg, _⟩
    · rw [h] at hv2; cases hv2
    · rw [h] at hv2
      have e' : g = w.heap.size + 1 := by simpa [Value.ownBlock] using hv2
      have := (Array.getElem?_eq_some_iff.1 hg).1
      omega
  clear hblk hrow hlet hRb hl h12 hat he
  go_enter Tryd.func39, Tryd.ntmps39
  go_wp2_with fail
  clear g0 hgl A2 cap
  go_loopw [13] (fun i wr => ∃ (j : Nat) (Q : List E), i = .int .i64 j ∧ j ≤ k ∧ Hid (LangAt l k Q a j) ∧ Hid (LangS wr b0 gL mA k (c0 + j) Q (aftF l k Q a j)) ∧ Hid (Q[a]? = some e) ∧ Hid (Blk wr w.heap.size 25 #[.int .i64 k, .slice A n c]) ∧ Hid (Blk wr (w.heap.size + 1) 79 #[.int .i64 e.1, .int .i64 e.2]) ∧ Below b0 w wr ∧ Hid (∀ v, wr.cell? ⟨gL, 1, none⟩ = some v → v.ownBlock ≠ some (w.heap.size + 1))) (fun i _ => k - (intOf i).toNat)
  case atStart => exact ⟨0, Q, rfl, Nat.zero_le _, hat0, hL0.out.below (bel2 _ _ _), he0, (Blk.new1 _ _ _).alloc _, Blk.new2 _ _ _ _, (bel2 _ _ _).mono hB, HX0⟩
  case round =>
    clear hL0 hat0 he0 HX0 Q
    obtain ⟨j, Q, rfl, hj, HA, HL, HQ, HS, HF, hb, HX⟩ := hrel
    have hbs := hb.size
    have hbB : b0 ≤ wr.heap.size := by omega
    by_cases hlt : j < k
    · obtain ⟨s0, s1, -, -, sl⟩ := HS.out.two
      obtain ⟨f0, f1, -, -, fl⟩ := HF.out.two
      have hcl := (HLet.out wr hb).cell j (by omega)
      have HSt : Hid (∀ w', Below wr.heap.size wr w' → w'.cell? ⟨w.heap.size, 0, none⟩ = some (.int .i64 k) ∧ w'.cell? ⟨w.heap.size, 1, none⟩ = some (.slice A n c) ∧ w'.cell? ⟨w.heap.size + 1, 0, none⟩ = some (.int .i64 e.1) ∧ w'.cell? ⟨w.heap.size + 1, 1, none⟩ = some (.int .i64 e.2) ∧ w'.cell? ⟨0, j, none⟩ = some (.int .u8 (97 + (j : Int))) ∧ Below wr.heap.size wr w') :=
        fun w' hw => ⟨(hw.cell sl).trans s0, (hw.cell sl).trans s1, (hw.cell fl).trans f0, (hw.cell fl).trans f1, ((HLet.out w' (hb.trans (hw.mono hbB))).cell j (by omega)), hw⟩
      have hj0 : (0 : Int) ≤ (j : Int) := by omega
      have hj4 : (j : Int) < 4 := by omega
      have c0' : Below wr.heap.size wr wr.drew := (Below.refl _ wr).drew
      go_wp2_with fail
      go_cut [7, 8] from 16 to 24 (fun s7 s8 wx => ∃ (d : Nat) (u v : Nat) (cc : Bool), s7 = .pointer (some ⟨d, 0, none⟩) ∧ s8 = .bool cc ∧ wr.heap.size ≤ d ∧ Hid (Blk wx d 79 #[.int .i64 u, .int .i64 v]) ∧ Hid (nxtS l e j = if cc then some (u, v) else none) ∧ Hid (Below wr.heap.size wr wx))
      case first =>
        obtain ⟨u5, v5, cc5, hv5, hn5⟩ := after_form (nxtS l e j)
        have Hv5 := Lib.hid hv5
        have Hn5 := Lib.hid hn5
        clear hv5 hn5
        go_region_held3 (fun w' => w'.cell? ⟨w.heap.size, 0, none⟩ = some (.int .i64 k) ∧ w'.cell? ⟨w.heap.size, 1, none⟩ = some (.slice A n c) ∧ w'.cell? ⟨w.heap.size + 1, 0, none⟩ = some (.int .i64 e.1) ∧ w'.cell? ⟨w.heap.size + 1, 1, none⟩ = some (.int .i64 e.2) ∧ w'.cell? ⟨0, j, none⟩ = some (.int .u8 (97 + (j : Int))) ∧ Below wr.heap.size wr w')
          (first | exact HSt.out _ c0' | exact HSt.out _ (c0'.alloc c0'.size _) | exact HSt.out _ c5 | exact HSt.out _ (c5.alloc c5.size _) | exact HSt.out _ ((c5.setCell (Nat.le_refl _) _).setCell (Nat.le_refl _) _) | exact HSt.out _ (((c5.alloc c5.size _).setCell c5.size _).setCell c5.size _))
          ((go_at_call 56; refine (endAfter_any k A n c B l e j _ (HRb.out _ (hb.trans (Below.mono (by first | exact c0' | exact c0'.alloc c0'.size _) hbB))) hge.out Hl.out (by omega)).mono ?_; rintro y w5 ⟨rfl, hb5⟩; (first | have c5 := c0'.trans (hb5.mono c0'.size) | (have c5 := (c0'.alloc c0'.size _).trans (hb5.mono (c0'.alloc c0'.size _).size); have D5 : Blk w5 wr.heap.size 79 #[.int .i64 0, .int .i64 0] := (Blk.new1 wr.drew #[.int .i64 0, .int .i64 0] 79).below hb5 (by simp); obtain ⟨d50, d51, d5f0, d5f1, d5l⟩ := D5.two)); rw [Hv5.out]))
        all_goals go_wp2_with fail
        all_goals go_meet
        all_goals first
          | exact ⟨_, u5, v5, cc5, rfl, rfl, c5.size, Blk.new1 _ _ _, Hn5.out, c5.alloc c5.size _⟩
          | exact ⟨_, u5, v5, cc5, rfl, rfl, Nat.le_refl _, (D5.set_ 0 _).set_ 1 _, Hn5.out, (c5.setCell (Nat.le_refl _) _).setCell (Nat.le_refl _) _⟩
      case rest =>
        obtain ⟨d, u, v, cc, rfl, rfl, hd, HD, HN, HW⟩ := hcut
        have hbc := Lib.hid (hb.trans (HW.out.mono hbB))
        have HLc := Lib.hid (HL.out.below HW.out)
        have gLr : gL < wr.heap.size := by obtain ⟨⟨A2, cap, hblk, -⟩, -⟩ := HL.out; exact hblk.lt
        have HXc : Hid (∀ v, wc.cell? ⟨gL, 1, none⟩ = some v → v.ownBlock ≠ some (w.heap.size + 1)) := fun v hv => HX.out v ((HW.out.cell gLr).symm.trans hv)
        have HSc := Lib.hid (HS.out.below HW.out sl)
        have HFc := Lib.hid (HF.out.below HW.out fl)
        have hwc := HW.out.size
        clear s0 s1 sl f0 f1 fl hcl HSt c0' HL HS HF
        cases cc
        · have HA2 := Lib.hid (HA.out.skip HQ.out HN.out)
          have HL2 : Hid (LangS wc b0 gL mA k (c0 + (j + 1)) Q (aftF l k Q a (j + 1))) := by
            show LangS _ _ _ _ _ _ _ _
            rw [aftF_none HA.out.nodup HQ.out HN.out]
            obtain ⟨x1, x2, x3, x4⟩ := HLc.out
            exact ⟨x1, x2.mono moveK (by omega), x3, x4⟩
          go_wp2_with fail
          go_roundw
          case rel => exact ⟨j + 1, Q, by go_num, by omega, HA2, HL2, HQ, HSc, HFc, hbc.out, HXc⟩
          case measure => simp [intOf]; omega
        · have HN' : Hid (nxtS l e j = some (u, v)) := HN
          have hgd := (nxt_some k 0 HN'.out).2
          have hov : okE (u, v) := hgd.lt Hl.out H12.out
          obtain ⟨⟨A2, cap, hblk, hrow⟩, hmp, hbL, hbA⟩ := HLc.out
          obtain ⟨W6, hput, hM6, hg6⟩ := (hmp.same moveK (W' := wc.drew) rfl).put moveK (mt := 81) (et := 79) Tryd.underlying81 (by unfold maxLen; omega) (x := (e, j)) ⟨hoe, by omega⟩ (endV (u, v))
          rw [aftV_put HA.out.nodup HQ.out HN'.out] at hM6
          change Sem.run _ (Instr.mapUpdate _ _ (.agg #[.int .i64 e.1, .int .i64 e.2, .int .u8 (97 + (j : Int))]) (.agg #[.int .i64 u, .int .i64 v])) _ = _ at hput
          have HM6 := Lib.hid hM6
          have HG6 : Hid (wc.grownBy W6 (some mA)) := ⟨hg6.os, hg6.tape, hg6.output, hg6.size, hg6.block⟩
          have g1 : wc.cell? ⟨gL, 1, none⟩ = some (.slice A2 Q.length cap) := hblk.cell 1
          have g2 : wc.cell? ⟨gL, 2, none⟩ = some (.map (some mA)) := hblk.cell 2
          have d0 : wc.cell? ⟨d, 0, none⟩ = some (.int .i64 u) := HD.out.cell 0
          have d1 : wc.cell? ⟨d, 1, none⟩ = some (.int .i64 v) := HD.out.cell 1
          have f0 : wc.cell? ⟨w.heap.size + 1, 0, none⟩ = some (.int .i64 e.1) := HFc.out.cell 0
          have f1 : wc.cell? ⟨w.heap.size + 1, 1, none⟩ = some (.int .i64 e.2) := HFc.out.cell 1
          have hcl := (HLet.out wc hbc.out).cell j (by omega)
          have Hblk := Lib.hid hblk
          have HX1 : Hid ((Value.slice A2 Q.length cap).ownBlock ≠ some (w.heap.size + 1)) := HXc.out _ (hblk.cell 1)
          have Hrow := Lib.hid hrow
          clear hblk hrow hM6 hg6
          go_wp2_with fail
          go_still_tail 10, (by kernel_rfl)
          change wpList _ _ _ _ _ wc.drew
          go_wp2_with fail
          have hs6 : wc.heap.size ≤ W6.heap.size := HG6.out.size
          have hk6 : ∀ i, i < wc.heap.size → i ≠ mA → W6.heap[i]? = wc.heap[i]? := fun i h1 h2 => HG6.out.block i h1 (fun e => h2 (by injection e))
          have hgA : gL ≠ mA := fun e => by
            obtain ⟨es, clock, hm⟩ := hmp.obj moveK
            have h1 := Hblk.out
            unfold Blk at h1
            rw [e, hm] at h1; cases h1
          have hdA : d ≠ mA := fun e => by
            obtain ⟨es, clock, hm⟩ := hmp.obj moveK
            have h1 := HD.out
            unfold Blk at h1
            rw [e, hm] at h1; cases h1
          have HB6 : Hid (Blk W6 gL 83 #[.int .i64 k, .slice A2 Q.length cap, .map (some mA)]) := (hk6 gL Hblk.out.lt hgA).trans Hblk.out
          have HD6 : Hid (Blk W6 d 79 #[.int .i64 u, .int .i64 v]) := (hk6 d HD.out.lt hdA).trans HD.out
          have HR6 : Hid (W6.ownsRow b0 79 2 (.slice A2 Q.length cap) Q.length (endsC Q)) := Hrow.out.kept HG6.out (by
            rcases Hrow.out.2 with ⟨h, _⟩ | ⟨g, cp, cur, h, _, hg, _⟩
            · left; rw [h]; rfl
            · right
              rw [h]
              intro e
              obtain ⟨es, clock, hm⟩ := hmp.obj moveK
              have e' : g = mA := by simpa [Value.ownBlock] using e
              rw [e', hm] at hg; cases hg)
          have hb6 : Hid (Below b0 w W6) := hbc.out.grown HG6.out (by omega) (fun i e => by injection e with e; omega)
          have HS6 : Hid (Blk W6 w.heap.size 25 #[.int .i64 k, .slice A n c]) := (hk6 _ HSc.out.lt (fun e => by
            obtain ⟨es, clock, hm⟩ := hmp.obj moveK
            have h1 := HSc.out
            unfold Blk at h1
            rw [e, hm] at h1; cases h1)).trans HSc.out
          have HF6 : Hid (Blk W6 (w.heap.size + 1) 79 #[.int .i64 e.1, .int .i64 e.2]) := (hk6 _ HFc.out.lt (fun e => by
            obtain ⟨es, clock, hm⟩ := hmp.obj moveK
            have h1 := HFc.out
            unfold Blk at h1
            rw [e, hm] at h1; cases h1)).trans HFc.out
          have q1 : W6.cell? ⟨gL, 1, none⟩ = some (.slice A2 Q.length cap) := HB6.out.cell 1
          have e0 : W6.cell? ⟨d, 0, none⟩ = some (.int .i64 u) := HD6.out.cell 0
          have e1 : W6.cell? ⟨d, 1, none⟩ = some (.int .i64 v) := HD6.out.cell 1
          have HO6 := Lib.hid (Own.of_row HR6.out)
          clear g1 g2 d0 d1 f0 f1 hcl hput hk6 HG6 Hblk HD Hrow HSc HFc hmp HLc hbc
          have gl6 : gL < W6.heap.size := HB6.out.lt
          have dl6 : d < W6.heap.size := HD6.out.lt
          have HS7 : Hid (∀ w', Below W6.heap.size W6 w' → w'.cell? ⟨gL, 1, none⟩ = some (.slice A2 Q.length cap) ∧ w'.cell? ⟨d, 0, none⟩ = some (.int .i64 u) ∧ w'.cell? ⟨d, 1, none⟩ = some (.int .i64 v) ∧ Below W6.heap.size W6 w') :=
            fun w' hw => ⟨(hw.cell gl6).trans q1, (hw.cell dl6).trans e0, (hw.cell dl6).trans e1, hw⟩
          have c6 : Below W6.heap.size W6 W6.drew := (Below.refl _ W6).drew
          go_region_held3 (fun w' => w'.cell? ⟨gL, 1, none⟩ = some (.slice A2 Q.length cap) ∧ w'.cell? ⟨d, 0, none⟩ = some (.int .i64 u) ∧ w'.cell? ⟨d, 1, none⟩ = some (.int .i64 v) ∧ Below W6.heap.size W6 w')
            (first | exact HS7.out _ c6 | exact HS7.out _ c7)
            ((go_at_call 57; refine (containsE_any A2 Q.length cap b0 Q (u, v) _ (HO6.out.below c6)).mono ?_; rintro y w7 ⟨rfl, hb7⟩; have c7 := c6.trans (hb7.mono c6.size)))
          have hS := ‹_ ∧ _ ∧ _ ∧ Below W6.heap.size W6 w7›
          obtain ⟨q2, e2, e3, b7⟩ := hS
          have hs7 := b7.size
          have hbB6 : b0 ≤ W6.heap.size := by omega
          have HB7 := Lib.hid (HB6.out.below b7 HB6.out.lt)
          have HR7 := Lib.hid (ownsRow_below HR6.out b7)
          have HM7 := Lib.hid (HM6.out.below moveK b7 (HM6.out.lt moveK))
          have HS7' := Lib.hid (HS6.out.below b7 HS6.out.lt)
          have HF7 := Lib.hid (HF6.out.below b7 HF6.out.lt)
          have hb7' := Lib.hid (hb6.out.trans (b7.mono hbB6))
          clear q1 e0 e1 HS7 c6 HB6 HD6 HR6 HM6 HS6 HF6 hb6 HO6
          by_cases hmem : (u, v) ∈ Q
          · have HA2 := Lib.hid (HA.out.old HQ.out HN'.out hmem)
            have hdm : decide ((u, v) ∈ Q) = true := decide_eq_true hmem
            rw [hdm]
            clear hmem hdm
            go_wp2_with fail
            go_roundw
            case rel => exact ⟨j + 1, Q, by go_num, by omega, HA2, ⟨⟨A2, cap, HB7.out, HR7.out⟩, HM7.out, hbL, hbA⟩, HQ, HS7', HF7, hb7'.out, fun v hv => by rw [HB7.out.cell 1] at hv; injection hv with hv; subst hv; exact HX1.out⟩
            case measure => simp [intOf]; omega
          · have HA2 := Lib.hid (HA.out.new HQ.out HN'.out hmem)
            have hdm : decide ((u, v) ∈ Q) = false := decide_eq_false hmem
            have hQl := HA.out.len Hl.out H12.out
            rw [hdm]
            clear hmem hdm
            have HR8 : Hid ((w7.alloc (.cells #[.int .i64 u, .int .i64 v] 79)).drew.ownsRow b0 79 2 (.slice A2 Q.length cap) Q.length (endsC Q)) := ownsRow_below HR7.out (bel1 w7 _).drew
            have q3 : (w7.alloc (.cells #[.int .i64 u, .int .i64 v] 79)).cell? ⟨gL, 1, none⟩ = some (.slice A2 Q.length cap) := (HB7.out.alloc _).cell 1
            have hnews : ∀ i x, [Value.int .i64 (u : Int), Value.int .i64 (v : Int)][i]? = some x → (w7.alloc (.cells #[.int .i64 u, .int .i64 v] 79)).drew.cell? ((⟨w7.heap.size, 0, none⟩ : Addr).add i) = some x := fun i x hx => by
              match i, hx with
              | 0, hx => simp at hx; subst hx; exact (Blk.new1 w7 _ _).cell 0
              | 1, hx => simp at hx; subst hx; exact (Blk.new1 w7 _ _).cell 1
            have hone : ∀ x ∈ [Value.int .i64 (u : Int), Value.int .i64 (v : Int)], x.oneCell' = true := fun x hx => by simp at hx; rcases hx with rfl | rfl <;> rfl
            have hrowne : Hid (∀ i o, w7.heap[i]? = some o → (∀ cs, o ≠ .cells cs 79 (0, 0)) → some i ≠ (Value.slice A2 Q.length cap).ownBlock) := fun i o ho hne e => by
              rcases HR7.out.2 with ⟨h, _⟩ | ⟨g, cp, cur, h, _, hg, _⟩
              · rw [h] at e; cases e
              · rw [h] at e
                have e' : i = g := by simpa [Value.ownBlock] using e
                subst e'
                rw [hg] at ho; injection ho with ho
                exact hne _ ho.symm
            have gl7 : gL < w7.heap.size := HB7.out.lt
            have h9 : Hid (∀ w9, (w7.alloc (.cells #[.int .i64 u, .int .i64 v] 79)).drew.grownBy w9 (Value.slice A2 Q.length cap).ownBlock → ∀ i, i < w7.heap.size → some i ≠ (Value.slice A2 Q.length cap).ownBlock → w9.heap[i]? = w7.heap[i]?) := fun w9 hgrow i h1 h2 => (hgrow.block i (by simp; omega) h2).trans (Below.heap_alloc _ _ _ h1)
            have HB9 : Hid (∀ w9, (w7.alloc (.cells #[.int .i64 u, .int .i64 v] 79)).drew.grownBy w9 (Value.slice A2 Q.length cap).ownBlock → Blk w9 gL 83 #[.int .i64 k, .slice A2 Q.length cap, .map (some mA)]) := fun w9 hg => (h9.out w9 hg gL gl7 (hrowne.out gL _ HB7.out (fun cs e => by injection e with _ e _; exact absurd e (by decide)))).trans HB7.out
            go_wp2_with fail
            go_region_law (refine (id ?_); rw [if_pos (by simp [Region.wanted])]; refine wp_append_lies _ (.tmp 48) (.tmp 50) 80 rfl b0 79 i0 (.agg #[.int .i64 0, .int .i64 0]) 2 16 Tryd.underlying80 hi hz0 hz1 hz2 rfl (by omega) (.slice A2 Q.length cap) Q.length (endsC Q) (by first | rfl | simp [Act.eval, Act.put]) HR8.out ⟨w7.heap.size, 0, none⟩ 1 1 [.int .i64 u, .int .i64 v] (by first | rfl | simp [Act.eval, Act.put]) rfl hnews hone (by omega) (by unfold maxLen; omega) (by omega) (by simp; omega) (w7.heap.size + 1) (by simp) ?_; intro g9 cp9 w9 hown9 hgrow9 hat9 hlt9; have z1 : w9.cell? ⟨gL, 1, none⟩ = some (.slice A2 Q.length cap) := (HB9.out w9 hgrow9).cell 1; have zf : w9.frozen? ⟨gL, 1, none⟩ = false := (HB9.out w9 hgrow9).frozen 1)
            all_goals (have P9 := push_end (e := e) (A := A) (n := n) (cc := c) rfl HB7.out HR7.out HM7.out hbL hbA HS7'.out HF7.out HX1.out hb7'.out hB hgrow9 hown9 hat9)
            all_goals (have HQ9 : Hid ((Q ++ [(u, v)])[a]? = some e) := (List.getElem?_append_left (List.getElem?_eq_some_iff.1 HQ.out).1).trans HQ.out)
            all_goals (rw [← aftF_grown l k Q a (j + 1) (u, v) (List.getElem?_eq_some_iff.1 HQ.out).1] at P9)
            all_goals obtain ⟨P1, P2, P3, P4, P5⟩ := P9
            all_goals (have HP1 := Lib.hid P1)
            all_goals (have HP2 := Lib.hid P2)
            all_goals (have HP3 := Lib.hid P3)
            all_goals (have HP5 := Lib.hid P5)
            all_goals clear P1 P2 P3 P5 hown9 hgrow9 z1 zf
            all_goals go_wp2_with fail
            all_goals go_roundw
            all_goals first
              | exact ⟨j + 1, Q ++ [(u, v)], by go_num, by omega, HA2, HP1, HQ9, HP2, HP3, P4, HP5⟩
              | (simp [intOf]; omega)
    · obtain rfl : j = k := by omega
      have HA2 := Lib.hid (HA.out.round HQ.out)
      go_wp2_with fail
      go_end0
      refine ⟨⟨_, rfl⟩, Q, ?_, HA2.out, hb⟩
      rw [← aftF_round HQ.out]
      obtain ⟨x1, x2, x3, x4⟩ := HL.out
      exact ⟨x1, x2.mono moveK (by omega), x3, x4⟩
end Go.Proofs.YtfkojahoaljiaaaDoor

namespace Go.Proofs.YtfkojahoaljiaaaDoor
open Go.RowKit Go.Maps

theorem LangS.mono {W : World} {b0 b1 gL mA k c c' : Nat} {Q : List E} {F : E → Nat → Option E} (h : LangS W b0 gL mA k c Q F) (hb : b1 ≤ b0) (hc : c ≤ c') : LangS W b1 gL mA k c' Q F := by
  obtain ⟨⟨A, cap, h1, h2, h3⟩, h4, h5, h6⟩ := h
  refine ⟨⟨A, cap, h1, h2, ?_⟩, h4.mono moveK hc, by omega, by omega⟩
  rcases h3 with h3 | ⟨g, cp, cur, e, hg, r⟩
  · exact Or.inl h3
  · exact Or.inr ⟨g, cp, cur, e, by omega, r⟩

set_option maxRecDepth 100000 in
set_option maxHeartbeats 2000000 in
theorem languageOf_any (k : Nat) (A : Option Addr) (n c B : Nat) (l : List R) (w : World) (h : Own B w (.slice A n c) 2 n (rulesC l)) (hl : ∀ r ∈ l, r.1.size ≤ 8) (h12 : l.length ≤ 12) (hk : k ≤ 4) (hlet : Let w) :
    Calls Tryd.prog 21 #[.agg #[.int .i64 k, .slice A n c]] w fun y w' => ∃ gL mA Q, y = .returned (.pointer (some ⟨gL, 0, none⟩)) ∧ LangS w' w.heap.size gL mA k 1000 Q (aftQ l k Q) ∧ Ends l k Q ∧ Below w.heap.size w w' := by
  have HRb : Hid (∀ w', Below w.heap.size w w' → Own B w' (.slice A n c) 2 n (rulesC l)) := fun w' hb => h.below hb
  have HLet : Hid (∀ w', Below w.heap.size w w' → Let w') := fun w' hb => hlet.keep hb (Nat.le_refl _)
  have Hl := Lib.hid hl
  have H12 := Lib.hid h12
  have hmm := @run_makeMap Tryd.prog
  clear h hl h12 hlet
  go_enter Tryd.func21, Tryd.ntmps21
  go_wp2_with fail
  obtain ⟨w1, hw1⟩ : ∃ x, x = (((w.alloc (.cells #[.int .i64 k, .slice A n c] 25)).alloc (.cells #[.int .i64 0, .int .i64 0] 79)).alloc (.map #[] 0)).alloc (.cells #[.int .i64 k, .slice (some ⟨w.heap.size + 1, 0, none⟩) 1 1, .map (some (w.heap.size + 1 + 1))] 83) := ⟨_, rfl⟩
  have HS1 : Hid (Blk w1 w.heap.size 25 #[.int .i64 k, .slice A n c]) := by rw [hw1]; exact (((Blk.new1 w _ _).alloc _).alloc _).alloc _
  have hsz1 : w1.heap.size = w.heap.size + 4 := by rw [hw1]; simp
  have b1 : Below (w.heap.size + 1) (w.alloc (.cells #[.int .i64 k, .slice A n c] 25)) w1 := by rw [hw1]; have := bel3 (w.alloc (.cells #[.int .i64 k, .slice A n c] 25)) (.cells #[.int .i64 0, .int .i64 0] 79) (.map #[] 0) (.cells #[.int .i64 k, .slice (some ⟨w.heap.size + 1, 0, none⟩) 1 1, .map (some (w.heap.size + 1 + 1))] 83); rwa [World.size_alloc] at this
  have HL1 : Hid (LangS w1 (w.heap.size + 1) (w.heap.size + 1 + 1 + 1) (w.heap.size + 1 + 1) k (4 * 0) [(0, 0)] (aftF l k [(0, 0)] 0 0)) := by
    refine ⟨⟨some ⟨w.heap.size + 1, 0, none⟩, 1, ?_, rfl, Or.inr ⟨w.heap.size + 1, 1, #[.int .i64 0, .int .i64 0], rfl, Nat.le_refl _, ?_, Nat.le_refl _, by unfold maxLen; omega, rfl, rfl⟩⟩, ?_, by omega, by omega⟩
    · rw [hw1]; exact Blk.new4 w _ _ _ _ _
    · rw [hw1]; exact ((Blk.new2 w _ _ _).alloc _).alloc _
    · rw [hw1, aftV_none (aftF_start l k _)]
      have := (MapOf.made moveK ((w.alloc (.cells #[.int .i64 k, .slice A n c] 25)).alloc (.cells #[.int .i64 0, .int .i64 0] 79))).alloc moveK (.cells #[.int .i64 k, .slice (some ⟨w.heap.size + 1, 0, none⟩) 1 1, .map (some (w.heap.size + 1 + 1))] 83)
      rwa [World.size_alloc, World.size_alloc] at this
  have hB1 : Below w.heap.size w w1 := (bel1 w _).trans (b1.mono (by omega))
  rw [← hw1]
  clear hw1 b1
  go_loopw [4] (fun i wr => ∃ (a : Nat) (Q : List E), i = .int .i64 a ∧ Hid (LangAt l k Q a 0) ∧ Hid (LangS wr (w.heap.size + 1) (w.heap.size + 1 + 1 + 1) (w.heap.size + 1 + 1) k (4 * a) Q (aftF l k Q a 0)) ∧ Hid (Blk wr w.heap.size 25 #[.int .i64 k, .slice A n c]) ∧ Below w.heap.size w wr ∧ w.heap.size + 4 ≤ wr.heap.size) (fun i _ => 108 - (intOf i).toNat)
  case atStart => exact ⟨0, [(0, 0)], rfl, LangAt.start l k, HL1, HS1, hB1, by omega⟩
  case round =>
    obtain ⟨a, Q, rfl, HA, HL, HS, hb, hsz⟩ := hrel
    have hQl := HA.out.len Hl.out H12.out
    have hle := HA.out.le
    obtain ⟨⟨A2, cap, hblk, hrow⟩, -, -, -⟩ := HL.out
    obtain ⟨s0, s1, -, -, sl⟩ := HS.out.two
    have g1 : wr.cell? ⟨w.heap.size + 1 + 1 + 1, 1, none⟩ = some (.slice A2 Q.length cap) := hblk.cell 1
    by_cases hlt : a < Q.length
    · obtain ⟨g, off, c0, hv⟩ := (Own.of_row hrow).formR (by omega)
      obtain ⟨rfl, rfl⟩ : A2 = some ⟨g, off, none⟩ ∧ cap = c0 := by injection hv with a _ b; exact ⟨a, b⟩
      clear hv
      obtain ⟨-, hgl, e, he, x0, x1⟩ := (Own.of_row hrow).endAt hlt
      have He := Lib.hid he
      clear hblk hrow he
      go_wp2_with fail
      go_still_tail 9, (by kernel_rfl)
      change wpList _ _ _ _ _ wr.drew
      go_wp2_with fail
      have hdr : Below wr.heap.size wr wr.drew := (Below.refl _ wr).drew
      refine (addMoves_any k A n c B l (w.heap.size + 1) (w.heap.size + 1 + 1 + 1) (w.heap.size + 1 + 1) (4 * a) a Q e wr.drew Hl.out H12.out hk
        (fun w' hw => HLet.out w' (hb.trans ((hdr.mono (by omega)).trans (hw.mono (by omega))))) (fun w' hw => HRb.out w' (hb.trans ((hdr.mono (by omega)).trans (hw.mono (by omega))))) (by simp; omega) (HL.out.below hdr) HA.out He.out (by omega)).mono ?_
      rintro y w2 ⟨⟨v, rfl⟩, Q', hL2, hA2, hb2⟩
      have hb3 : Below (w.heap.size + 1) wr w2 := (hdr.mono (by omega)).trans hb2
      have HL2 := Lib.hid hL2
      have HA2 := Lib.hid hA2
      have HS2 := Lib.hid (HS.out.below hb3 (by omega))
      have hb4 := hb.trans (hb3.mono (by omega))
      have hs4 := hb3.size
      clear hL2 hA2 hb2 hb3 s0 s1 sl g1 x0 x1 hgl
      go_wp2_with fail
      go_roundw
      case rel => exact ⟨a + 1, Q', by go_num, HA2, HL2, HS2, hb4, by omega⟩
      case measure => simp [intOf]; omega
    · have hla : a = Q.length := by omega
      have HL3 := HL.out
      have HA3 := HA.out
      rw [hla] at HL3 HA3
      rw [aftF_end] at HL3
      have HL4 := Lib.hid (HL3.mono (b1 := w.heap.size) (c' := 1000) (by omega) (by omega))
      have HA4 := Lib.hid HA3.ends
      clear HL3 HA3 hblk hrow
      go_wp2_with fail
      go_ret
      exact ⟨_, _, Q, rfl, HL4.out, HA4.out, hb⟩
end Go.Proofs.YtfkojahoaljiaaaDoor

namespace Go.Proofs.YtfkojahoaljiaaaDoor
open Go.RowKit Go.Maps

theorem TalAt.obj {W : World} {g m c : Nat} {T : E → Option Int} (h : TalAt W g m c T) : ∃ es clock, W.heap[m]? = some (.map es clock) := h.2.obj endK
theorem Blk.ne_map {W : World} {g m : Nat} {t : TypeId} {cs : Array Value} (h : Blk W g t cs) (hm : ∃ es clock, W.heap[m]? = some (.map es clock)) : g ≠ m := fun e => by
  obtain ⟨es, clock, hm⟩ := hm
  unfold Blk at h
  rw [e, hm] at h; cases h
theorem LangS.tal {W W' : World} {b0 gL mA k c m : Nat} {Q : List E} {F : E → Nat → Option E} (h : LangS W b0 gL mA k c Q F) (hm : ∃ es clock, W.heap[m]? = some (.map es clock)) (hne : mA ≠ m) (ht : Turn [m] W W') : LangS W' b0 gL mA k c Q F := by
  obtain ⟨⟨A, cap, h1, h2⟩, h3, h4, h5⟩ := h
  refine ⟨⟨A, cap, ht.blk h1 (by simpa using h1.ne_map hm), ?_⟩, h3.same moveK (ht.block mA (h3.lt moveK) (by simpa using hne)), h4, h5⟩
  refine ⟨h2.1, ?_⟩
  rcases h2.2 with h2 | ⟨g, cp, cur, e, hg, hh, r⟩
  · exact Or.inl h2
  · refine Or.inr ⟨g, cp, cur, e, hg, ?_, r⟩
    exact ht.obj hh (by simpa using Blk.ne_map (W := W) (t := 79) (cs := cur) hh hm)
theorem zeroEnd (w : World) : (zeroValue 79).run Tryd.prog w = .ok (.agg #[.int .i64 0, .int .i64 0]) w := by kernel_rfl

theorem aftQ_at {l : List R} {k : Nat} {Q : List E} {e : E} {j : Nat} (he : e ∈ Q) (hj : j < k) : aftQ l k Q e j = nxtS l e j := by unfold aftQ; rw [if_pos ⟨he, hj⟩]
theorem tal_put {l : List R} {k : Nat} {Q : List E} {t a j : Nat} {e e' : E} (hQ : Ends l k Q) (he : Q[a]? = some e) (hj : j < k) (hn : nxtS l e j = some e') (hc : 0 < cntE l k t e') :
    putT (talTo l k Q t a j) e (wrap64 ((talTo l k Q t a j e).getD 0 + (talF l k Q t e').getD 0)) = talTo l k Q t a (j + 1) := by
  have hm : e' ∈ Q := hQ.next e j e' (List.mem_of_getElem? he) hj hn
  funext e1
  rw [talTo_step hQ.nodup he]
  unfold putT
  by_cases h : e1 = e
  · rw [if_pos h, if_pos h, talTo_at hQ.nodup he, (nxt_some k t hn).1]
    unfold talF
    rw [if_pos hm, someIf_getD, someIf_getD, show ∀ x : Int, wrap64 x = IntKind.wrap .i64 x from fun x => by unfold wrap64; rw [IntKind.wrap_i64], wr_add]
    unfold someIf
    rw [if_pos (by omega)]
  · rw [if_neg h, if_neg h]
theorem tal_skip {l : List R} {k : Nat} {Q : List E} {t a j : Nat} {e e' : E} (hQ : Ends l k Q) (he : Q[a]? = some e) (hn : nxtS l e j = some e') (hc : ¬ 0 < cntE l k t e') : talTo l k Q t a (j + 1) = talTo l k Q t a j := by
  refine talTo_same hQ.nodup he ?_
  rw [(nxt_some k t hn).1]; omega
theorem talF_some {l : List R} {k : Nat} {Q : List E} {t : Nat} {e : E} (he : e ∈ Q) : (talF l k Q t e).isSome = decide (0 < cntE l k t e) := by
  unfold talF someIf
  rw [if_pos he]
  by_cases h : 0 < cntE l k t e
  · rw [if_pos h, decide_eq_true h]; rfl
  · rw [if_neg h, decide_eq_false h]; rfl
theorem TalAt.mono {W : World} {g m c c' : Nat} {T : E → Option Int} (h : TalAt W g m c T) (hc : c ≤ c') : TalAt W g m c' T := ⟨h.1, h.2.mono endK hc⟩
theorem look_after (F : E → Nat → Option E) (m : M) : Value.tuple #[(aftV F m).getD (.agg #[.int .i64 0, .int .i64 0]), .bool (aftV F m).isSome] = afterV (F m.1 m.2) := by
  unfold aftV
  cases F m.1 m.2 <;> rfl
set_option maxRecDepth 100000 in
set_option maxHeartbeats 2000000 in
theorem addLonger_any (k : Nat) (l : List R) (b0 gL mA c0 g1 m1 c1 g2 m2 t : Nat) (Q : List E) (w : World) (hl : ∀ r ∈ l, r.1.size ≤ 8) (h12 : l.length ≤ 12) (hk : k ≤ 4) (hQ : Ends l k Q) (hlet : ∀ w', Turn [m2] w w' → Let w')
    (hL : LangS w b0 gL mA k c0 Q (aftQ l k Q)) (h1 : TalAt w g1 m1 c1 (talF l k Q t)) (h2 : TalAt w g2 m2 0 (fun _ => none)) (hA : mA ≠ m2) (h12m : m1 ≠ m2) :
    Calls Tryd.prog 61 #[.pointer (some ⟨gL, 0, none⟩), .pointer (some ⟨g1, 0, none⟩), .pointer (some ⟨g2, 0, none⟩)] w fun y w' => (∃ v, y = .returned v) ∧ Turn [m2] w w' ∧ TalAt w' g2 m2 1000 (talF l k Q (t + 1)) := by
  obtain ⟨⟨A2, cap, hblk, hrow⟩, -, -, -⟩ := id hL
  have q0 : w.cell? ⟨gL, 1, none⟩ = some (.slice A2 Q.length cap) := hblk.cell 1
  have HQl := hQ.len hl h12
  have HLt := Lib.hid (fun W' (ht : Turn [m2] w W') => hL.tal h2.obj hA ht)
  have H1t := Lib.hid (fun W' (ht : Turn [m2] w W') => h1.turn ht (by simpa using h1.1.ne_map h2.obj) (by simpa using h12m))
  have Hrow := Lib.hid (fun W' (ht : Turn [m2] w W') => by
    obtain ⟨⟨A3, cap3, hb3, hr3⟩, -, -, -⟩ := hL.tal h2.obj hA ht
    have e1 := (ht.blk hblk (by simpa using hblk.ne_map h2.obj)).cell 1
    rw [hb3.cell 1] at e1
    have e2 : Value.slice A3 Q.length cap3 = Value.slice A2 Q.length cap := by injection e1
    rw [e2] at hr3
    exact (Own.of_row hr3 : Own b0 W' (.slice A2 Q.length cap) 2 Q.length (endsC Q)))
  have HBt := Lib.hid (fun W' (ht : Turn [m2] w W') => ht.blk hblk (by simpa using hblk.ne_map h2.obj))
  have H20 : Hid (TalAt w g2 m2 (4 * 0) (talTo l k Q t 0 0)) := by rw [talTo_start]; exact h2
  have HLet := Lib.hid hlet
  have HE := Lib.hid hQ
  have Hl := Lib.hid hl
  have H12 := Lib.hid h12
  clear hL h1 h2 hblk hrow hlet hQ hl h12
  go_enter Tryd.func61, Tryd.ntmps61
  go_wp2_with fail
  clear q0
  go_loopw [18] (fun i wr => ∃ a : Nat, i = .int .i64 a ∧ a ≤ Q.length ∧ Hid (TalAt wr g2 m2 (4 * a) (talTo l k Q t a 0)) ∧ Turn [m2] w wr) (fun i _ => Q.length - (intOf i).toNat)
  case atStart => exact ⟨0, rfl, Nat.zero_le _, H20, Turn.refl _ _⟩
  case round =>
    obtain ⟨a, rfl, hal, H2, hT⟩ := hrel
    clear H20
    by_cases hlt : a < Q.length
    · have hO := Hrow.out wr hT
      obtain ⟨g, off, cc, hv⟩ := hO.formR (by omega)
      obtain ⟨rfl, rfl⟩ : A2 = some ⟨g, off, none⟩ ∧ cap = cc := by injection hv with a _ b; exact ⟨a, b⟩
      clear hv
      obtain ⟨-, hgl, e, he, x0, x1⟩ := hO.endAt hlt
      have He := Lib.hid he
      have hmem : e ∈ Q := List.mem_of_getElem? he
      have hoe : okE e := (HE.out.good e hmem).lt Hl.out H12.out
      have Hmem := Lib.hid hmem
      have q1 : (wr.alloc (.cells #[.int .i64 e.1, .int .i64 e.2] 79)).cell? ⟨gL, 0, none⟩ = some (.int .i64 k) := ((HBt.out wr hT).alloc _).cell 0
      have HEb := Lib.hid (Blk.new1 wr #[.int .i64 e.1, .int .i64 e.2] 79)
      have hT1 := hT.trans (turn_below (S := [m2]) (bel1 wr (.cells #[.int .i64 e.1, .int .i64 e.2] 79)))
      have HT1 := Lib.hid hT1
      have H21 := Lib.hid (H2.out.turn (turn_below (S := []) (bel1 wr (.cells #[.int .i64 e.1, .int .i64 e.2] 79))) (by simp) (by simp))
      clear hO he hmem H2 hT1
      go_wp2_with fail
      clear x0 x1 hgl q1
      generalize wr.alloc (.cells #[.int .i64 e.1, .int .i64 e.2] 79) = w1 at *
      generalize wr.heap.size = eb at *
      go_loopw [26] (fun i wx => ∃ j : Nat, i = .int .i64 j ∧ j ≤ k ∧ Hid (TalAt wx g2 m2 (4 * a + j) (talTo l k Q t a j)) ∧ Hid (Turn [m2] w wx) ∧ Hid (Blk wx eb 79 #[.int .i64 e.1, .int .i64 e.2])) (fun i _ => k - (intOf i).toNat)
      case atStart => exact ⟨0, rfl, Nat.zero_le _, H21, HT1, HEb⟩
      case round =>
        clear H21 HT1 HEb
        obtain ⟨j, rfl, hj, H2, HT, HEb⟩ := hrel
        by_cases hlt2 : j < k
        · obtain ⟨u5, v5, cc5, hv5, hn5⟩ := after_form (aftQ l k Q e j)
          have Hn5 := Lib.hid hn5
          have hb2 := HBt.out wr HT.out
          have glr : gL < wr.heap.size := hb2.lt
          have ebr : eb < wr.heap.size := HEb.out.lt
          have hmp := (HLt.out wr HT.out).map
          have hlk : ∀ w', Below wr.heap.size wr w' → (Instr.lookup 81 (.map (some mA)) (.agg #[.int .i64 e.1, .int .i64 e.2, .int .u8 (97 + (j : Int))]) true).run Tryd.prog w' = .ok (.tuple #[.agg #[.int .i64 u5, .int .i64 v5], .bool cc5]) w' := fun w' hw => by
            have := (hmp.below moveK hw (hmp.lt moveK)).look_ok moveK (mt := 81) (et := 79) Tryd.underlying81 (zeroEnd w') (x := (e, j)) ⟨hoe, by omega⟩
            rw [look_after, hv5] at this
            exact this
          have hcl := (HLet.out wr HT.out).cell j (by omega)
          have glt : 0 < wr.heap.size := World.block_lt_of_cell? wr _ hcl
          have HSt : Hid (∀ w', Below wr.heap.size wr w' → w'.cell? ⟨gL, 2, none⟩ = some (.map (some mA)) ∧ w'.cell? ⟨eb, 0, none⟩ = some (.int .i64 e.1) ∧ w'.cell? ⟨eb, 1, none⟩ = some (.int .i64 e.2) ∧ w'.cell? ⟨0, j, none⟩ = some (.int .u8 (97 + (j : Int))) ∧ (Instr.lookup 81 (.map (some mA)) (.agg #[.int .i64 e.1, .int .i64 e.2, .int .u8 (97 + (j : Int))]) true).run Tryd.prog w' = .ok (.tuple #[.agg #[.int .i64 u5, .int .i64 v5], .bool cc5]) w' ∧ Below wr.heap.size wr w') :=
            fun w' hw => ⟨(hw.cell glr).trans (hb2.cell 2), (hw.cell ebr).trans (HEb.out.cell 0), (hw.cell ebr).trans (HEb.out.cell 1), (hw.cell glt).trans hcl, hlk w' hw, hw⟩
          have hj0 : (0 : Int) ≤ (j : Int) := by omega
          have hj4 : (j : Int) < 4 := by omega
          have c0' : Below wr.heap.size wr wr.drew := (Below.refl _ wr).drew
          clear hlk hcl hb2 hmp hv5 hn5
          go_wp2_with fail
          go_cut [9, 10] from 29 to 41 (fun s9 s10 wx => ∃ (d : Nat), s9 = .pointer (some ⟨d, 0, none⟩) ∧ s10 = .bool cc5 ∧ Hid (Blk wx d 79 #[.int .i64 u5, .int .i64 v5]) ∧ Hid (Below wr.heap.size wr wx))
          case first =>
            go_region_held3 (fun w' => w'.cell? ⟨gL, 2, none⟩ = some (.map (some mA)) ∧ w'.cell? ⟨eb, 0, none⟩ = some (.int .i64 e.1) ∧ w'.cell? ⟨eb, 1, none⟩ = some (.int .i64 e.2) ∧ w'.cell? ⟨0, j, none⟩ = some (.int .u8 (97 + (j : Int))) ∧ (Instr.lookup 81 (.map (some mA)) (.agg #[.int .i64 e.1, .int .i64 e.2, .int .u8 (97 + (j : Int))]) true).run Tryd.prog w' = .ok (.tuple #[.agg #[.int .i64 u5, .int .i64 v5], .bool cc5]) w' ∧ Below wr.heap.size wr w')
              (first | exact HSt.out _ c0' | exact HSt.out _ (c0'.alloc c0'.size _) | exact HSt.out _ (((c0'.alloc c0'.size _).setCell c0'.size _).setCell c0'.size _))
              (fail)
            all_goals go_wp2_with fail
            all_goals go_meet
            all_goals exact ⟨_, rfl, rfl, Blk.new1 _ _ _, (bel1 wr _).drew⟩
          case rest =>
            obtain ⟨d, rfl, rfl, HD, HW⟩ := hcut
            have g2r := H2.out.1.lt
            have m2r := H2.out.2.lt
            have HTc := Lib.hid (HT.out.trans (turn_below HW.out))
            have H2c := Lib.hid (H2.out.below HW.out g2r m2r)
            have HEc := Lib.hid (HEb.out.below HW.out ebr)
            clear H2 HT HEb HSt c0' HW
            rw [aftQ_at Hmem.out hlt2] at Hn5
            cases cc5
            · have H2d : Hid (TalAt wc g2 m2 (4 * a + (j + 1)) (talTo l k Q t a (j + 1))) := by
                show TalAt _ _ _ _ _
                rw [talTo_same HE.out.nodup He.out (nxt_none k t Hn5.out)]
                exact H2c.out.mono (by omega)
              go_wp2_with fail
              go_roundw
              case rel => exact ⟨j + 1, by go_num, by omega, H2d, HTc, HEc⟩
              case measure => simp [intOf]; omega
            · have Hn6 : Hid (nxtS l e j = some (u5, v5)) := Hn5
              have hm5 : (u5, v5) ∈ Q := HE.out.next e j _ Hmem.out hlt2 Hn6.out
              have ho5 : okE (u5, v5) := (HE.out.good _ hm5).lt Hl.out H12.out
              have Hm5 := Lib.hid hm5
              have d0 : wc.cell? ⟨d, 0, none⟩ = some (.int .i64 u5) := HD.out.cell 0
              have d1 : wc.cell? ⟨d, 1, none⟩ = some (.int .i64 v5) := HD.out.cell 1
              clear hm5 Hn5
              go_wp2_with fail
              refine (number_any g1 m1 c1 (talF l k Q t) (u5, v5) wc (H1t.out wc HTc.out) ho5).mono ?_
              rintro y w3 ⟨rfl, hb3⟩
              rw [talF_some Hm5.out]
              have g2c := H2c.out.1.lt
              have m2c := H2c.out.2.lt
              have H23 := Lib.hid (H2c.out.below hb3 g2c m2c)
              have HT3 := Lib.hid (HTc.out.trans (turn_below hb3))
              have HE3 := Lib.hid (HEc.out.below hb3 HEc.out.lt)
              clear H2c HTc HEc hb3 d0 d1 HD
              by_cases hc : 0 < cntE l k t (u5, v5)
              · have Hpt := Lib.hid (tal_put HE.out He.out hlt2 Hn6.out hc)
                rw [decide_eq_true hc]
                have f0 : w3.cell? ⟨eb, 0, none⟩ = some (.int .i64 e.1) := HE3.out.cell 0
                have f1 : w3.cell? ⟨eb, 1, none⟩ = some (.int .i64 e.2) := HE3.out.cell 1
                clear hc
                generalize (talF l k Q t (u5, v5)).getD 0 = xx at *
                go_wp2_with fail
                refine (add_any g2 m2 (4 * a + j) (talTo l k Q t a j) e xx w3 H23.out hoe (by omega)).mono ?_
                rintro y w4 ⟨⟨vv, rfl⟩, hT4, hA4⟩
                rw [Hpt.out] at hA4
                have H24 : Hid (TalAt w4 g2 m2 (4 * a + (j + 1)) (talTo l k Q t a (j + 1))) := hA4
                have HT4 := Lib.hid (HT3.out.trans hT4)
                have hem : eb ≠ m2 := HE3.out.ne_map H23.out.obj
                have HE4 := Lib.hid (hT4.blk HE3.out (by simpa using hem))
                clear hA4 hT4 f0 f1
                go_wp2_with fail
                go_roundw
                case rel => exact ⟨j + 1, by go_num, by omega, H24, HT4, HE4⟩
                case measure => simp [intOf]; omega
              · have H2d : Hid (TalAt w3 g2 m2 (4 * a + (j + 1)) (talTo l k Q t a (j + 1))) := by
                  show TalAt _ _ _ _ _
                  rw [tal_skip HE.out He.out Hn6.out hc]
                  exact H23.out.mono (by omega)
                rw [decide_eq_false hc]
                clear hc
                go_wp2_with fail
                go_roundw
                case rel => exact ⟨j + 1, by go_num, by omega, H2d, HT3, HE3⟩
                case measure => simp [intOf]; omega
        · obtain rfl : j = k := by omega
          have H2d : Hid (TalAt wr g2 m2 (4 * (a + 1)) (talTo l j Q t (a + 1) 0)) := by
            show TalAt _ _ _ _ _
            rw [← talTo_round HE.out.nodup He.out]
            exact H2.out.mono (by omega)
          have HTo := HT.out
          go_wp2_with fail
          go_roundw
          case rel => exact ⟨a + 1, by go_num, by omega, H2d, HTo⟩
          case measure => simp [intOf]; omega
    · have hla : a = Q.length := by omega
      have H2d : Hid (TalAt wr g2 m2 1000 (talF l k Q (t + 1))) := by
        show TalAt _ _ _ _ _
        rw [← talTo_end, ← hla]
        exact H2.out.mono (by omega)
      go_wp2_with fail
      go_end0
      exact ⟨⟨_, rfl⟩, hT, H2d.out⟩
end Go.Proofs.YtfkojahoaljiaaaDoor

namespace Go.Proofs.YtfkojahoaljiaaaDoor
open Go.RowKit

/-- The blocks of D lie as they lay. -/
structure KeepD (D : Nat → Prop) (W W' : World) : Prop where
  size : W.heap.size ≤ W'.heap.size
  block : ∀ b, D b → W'.heap[b]? = W.heap[b]?
theorem KeepD.refl (D : Nat → Prop) (W : World) : KeepD D W W := ⟨Nat.le_refl _, fun _ _ => rfl⟩
theorem KeepD.trans {D : Nat → Prop} {X Y Z : World} (h : KeepD D X Y) (k : KeepD D Y Z) : KeepD D X Z := ⟨Nat.le_trans h.size k.size, fun i hi => (k.block i hi).trans (h.block i hi)⟩
theorem keepD_put {D : Nat → Prop} (W : World) (l : Nat) (o : Obj) (h : ¬ D l) : KeepD D W (W.putObj l o) :=
  ⟨(grownBy_putObj' W l o).size, fun b hb => World.putObj_heap_other (fun e => h (by rw [← e]; exact hb))⟩
/-- What such an iterator does by itself: maps from B on turn, and blocks are laid. -/
def Own2 (B : Nat) (W W' : World) : Prop := ∃ S, Turn S W W' ∧ ∀ b ∈ S, B ≤ b ∧ ∃ es clock, W.heap[b]? = some (.map es clock)
theorem own2_below {B : Nat} {W W' : World} (h : Below W.heap.size W W') : Own2 B W W' := ⟨[], turn_below h, fun b hb => by cases hb⟩

/-- The iterator yields N times; E tells how the world lies when it yields the i-th values; a round leaves the blocks of D as they lay. -/
def SeqTells (F : Fence) (m : Nat) (P : Program) (gf : Nat) (lb : Array Value) (E : Nat → Nat → Array Value → World → Prop) (D : Nat → Nat → Prop) (N : Nat) (w0 : World) : Prop :=
  ∀ (lp : Nat) (J Jx : Nat → World → Prop) (W : World), Below w0.heap.size w0 W → (∀ i X Y, J i X → Own2 W.heap.size X Y → J i Y) →
    (∀ i args X, J i X → E W.heap.size i args X → i < N → YieldAt F (m - 1) P lp args X fun e Y => (e = .returned (.bool true) ∧ J (i + 1) Y ∧ KeepD (D W.heap.size) X Y) ∨ (e = .returned (.bool false) ∧ Jx i Y)) →
    J 0 W → CallsIn F m P gf (#[.func (.yield lp) #[] #[]] ++ lb) W fun e Y => (∃ v, e = .returned v) ∧ (J N Y ∨ ∃ i, i < N ∧ Jx i Y)

/-- What a round's body owes. -/
def roundPost (mark : Nat) (D : Nat → Prop) (I : Nat → World → Prop) (Ix : Code → Nat → World → Prop) (i : Nat) (W : World) : Exit → Act → World → Prop
  | .normal, _, W' => W'.heap[mark]? = W.heap[mark]? ∧ W'.heap[mark + 1]? = W.heap[mark + 1]? ∧ KeepD D W W' ∧ I (i + 1) W'
  | .ret, _, W' => W'.heap[mark]? = W.heap[mark]? ∧ W'.heap[mark + 1]? = W.heap[mark + 1]? ∧ Ix .ret i W'
  | .exit id, _, W' => W'.heap[mark]? = W.heap[mark]? ∧ W'.heap[mark + 1]? = W.heap[mark + 1]? ∧ Ix (.exit id) i W'
  | .goto t, _, W' => W'.heap[mark]? = W.heap[mark]? ∧ W'.heap[mark + 1]? = W.heap[mark + 1]? ∧ Ix (.goto t) i W'
  | _, _, _ => False

theorem range_tells {F : Fence} {n : Nat} {P : Program} {g : Operand} {ps : Array Tmp} {assign body : Code} {Q : Exit → Act → World → Prop} {a : Act} {w : World}
    (hro : F.round = none) (h1 : 1 ≤ n) {gf : Nat} {lb : Array Value} (hg : a.eval g = .func (.func gf) #[] lb) (hFg : F.fn gf) (eg : ∀ args w, (callFunc gf args).run P w = .ok (.enter gf args) w)
    {E : Nat → Nat → Array Value → World → Prop} {D : Nat → Nat → Prop} {N : Nat} {w0 : World} (hseq : SeqTells F (n - 1) P gf lb E D N w0) (hb0 : Below w0.heap.size w0 w)
    (hps : ∀ B i args X, E B i args X → args.size = ps.size) (hE : ∀ B i args X Y, E B i args X → KeepD (D B) X Y → E B i args Y) (hD2 : ¬ D (w.heap.size + 2) (w.heap.size + 1))
    (I : Nat → World → Prop) (Ix : Code → Nat → World → Prop) (hI : ∀ i X Y, I i X → Own2 (w.heap.size + 2) X Y → I i Y) (hIp : ∀ i X l o, I i X → w.heap.size ≤ l → l < w.heap.size + 2 → I i (X.putObj l o)) (hXp : ∀ c i X l o, Ix c i X → w.heap.size ≤ l → l < w.heap.size + 2 → Ix c i (X.putObj l o))
    (h0 : ∀ o, I 0 ((w.alloc (.deferred (some []))).alloc o)) (a₁ : Array Value → Act)
    (hassign : ∀ (l : Nat) (args : Array Value) (W : World) (K : Act → World → Prop), args.size = ps.size → K (a₁ args) W →
      assign.wpIn (F.inRound l) (n - 1 - 1) P (Exit.then K (fun _ _ _ => False)) { tmps := (ps.zip args).foldl (fun t (p, v) => t.setIfInBounds p v) a.tmps, defers := [] } W)
    (hbody : ∀ (l i : Nat) (args : Array Value) (W : World), I i W → E (w.heap.size + 2) i args W → i < N → w.heap.size + 2 ≤ W.heap.size → body.wpIn (F.inRound l) (n - 1 - 1) P (roundPost w.heap.size (D (w.heap.size + 2)) I Ix i W) (a₁ args) W)
    (hdone : ∀ (W : World), I N W → W.heap[w.heap.size]? = some (.deferred (some [])) → Q .normal { a with defers := { target := .collected w.heap.size, args := #[] } :: a.defers } W)
    (hstop : ∀ (c : Code) (i : Nat) (W : World), i < N → Ix c i W → W.heap[w.heap.size]? = some (.deferred (some [])) → c.wpIn F n P Q { a with defers := { target := .collected w.heap.size, args := #[] } :: a.defers } W) :
    (Code.rangeFunc g ps assign body).wpIn F n P Q a w := by
  refine wpIn_rangeFunc fun fn hfn => ?_
  rw [hro]
  obtain ⟨rec, hrec⟩ : ∃ rec : LoopState → Option Code → Loop, rec = fun st pe => { state := st, pending := pe, fn, tmps := a.tmps, params := ps, assign, body, defers := w.heap.size } := ⟨_, rfl⟩
  obtain ⟨W1, hW1⟩ : ∃ W1, (w.alloc (.deferred (some []))).alloc (.loop (rec .ready none)) = W1 := ⟨_, rfl⟩
  have hs1 : W1.heap.size = w.heap.size + 2 := by rw [← hW1]; simp
  have hL1 : W1.heap[w.heap.size + 1]? = some (.loop (rec .ready none)) := by
    rw [← hW1]; have := World.alloc_heap_new (w.alloc (.deferred (some []))) (.loop (rec .ready none)); rwa [World.size_alloc] at this
  have hK1 : W1.heap[w.heap.size]? = some (.deferred (some [])) := by
    rw [← hW1]; exact (Below.heap_alloc _ _ _ (by simp)).trans (World.alloc_heap_new w _)
  have hb1 : Below w0.heap.size w0 W1 := by rw [← hW1]; exact hb0.trans ((bel2 w _ _).mono hb0.size)
  refine ⟨w.heap.size + 1, [{ target := .collected w.heap.size, args := #[] }], W1, { target := .fn (.func gf) lb, args := #[.func (.yield (w.heap.size + 1)) #[] #[]] }, W1, gf,
    #[.func (.yield (w.heap.size + 1)) #[] #[]] ++ lb, W1, ?_, ?_, ?_, ?_, fun _ => h1, ?_⟩
  · rw [← hW1, hrec]; exact run_enterLoop_outer _ _ _ _ _
  · simp only [resolve, hg]
    simp [go_sem]
  · intro f' hf'; simp [Target.leads] at hf'; subst hf'; exact hFg
  · simp [invoke, go_sem, eg]
  have noM : ∀ {X : World} {S : List Nat} {j : Nat} {o : Obj}, X.heap[j]? = some o → (∀ es clock, o ≠ .map es clock) → (∀ b ∈ S, W1.heap.size ≤ b ∧ ∃ es clock, X.heap[b]? = some (.map es clock)) → j ∉ S := fun hj hne hS hm => by
    obtain ⟨-, es, clock, hb⟩ := hS _ hm
    rw [hj] at hb
    exact hne es clock (by injection hb)
  refine (hseq (w.heap.size + 1) (fun i W => I i W ∧ W.heap[w.heap.size + 1]? = some (.loop (rec .ready none)) ∧ W.heap[w.heap.size]? = some (.deferred (some [])))
    (fun i W => ∃ c, Ix c i W ∧ W.heap[w.heap.size + 1]? = some (.loop (rec .done (some c))) ∧ W.heap[w.heap.size]? = some (.deferred (some []))) W1 hb1 ?_ ?_ ⟨by rw [← hW1]; exact h0 _, hL1, hK1⟩).mono ?_
  · rintro i X Y ⟨hi, hl, hk⟩ ⟨S, ht, hS⟩
    refine ⟨hI i X Y hi ⟨S, ht, by rwa [hs1] at hS⟩, ?_, ?_⟩
    · exact ht.obj hl (noM hl (fun _ _ e => by cases e) hS)
    · exact ht.obj hk (noM hk (fun _ _ e => by cases e) hS)
  · rintro i args X ⟨hi, hl, hk⟩ he hlt
    rw [hs1] at he ⊢
    have hsz : args.size = ps.size := hps _ i args X he
    have hy := run_yield (P := P) (args := args) hl (by rw [hrec]; exact hsz)
    rw [hrec] at hy
    refine ⟨fn, _, assign, body, hy, roundIn_of_wpIn hfn (hassign _ args X _ hsz ?_)⟩
    have hlt1 : w.heap.size + 1 < X.heap.size := (Array.getElem?_eq_some_iff.1 hl).1
    refine ⟨_, run_beginRound hl (by rw [hrec]), ?_⟩
    have hl2 : (X.putObj (w.heap.size + 1) (.loop { rec .ready none with state := .busy })).heap[w.heap.size + 1]? = some (.loop { rec .ready none with state := .busy }) := World.putObj_heap_same hlt1
    have hk2 : (X.putObj (w.heap.size + 1) (.loop { rec .ready none with state := .busy })).heap[w.heap.size]? = some (.deferred (some [])) := (World.putObj_heap_other (by omega)).trans hk
    have hw2 := keepD_put (D := D (w.heap.size + 2)) X (w.heap.size + 1) (.loop { rec .ready none with state := .busy }) hD2
    have hsb := hw2.size
    refine wpIn_mono (hbody _ i args _ (hIp i X _ _ hi (by omega) (by omega)) (hE _ i args X _ he hw2) hlt (Nat.le_trans (by omega) hsb)) ?_
    have fin : ∀ (jump : Option Code) (W3 : World), W3.heap[w.heap.size]? = (X.putObj (w.heap.size + 1) (.loop { rec .ready none with state := .busy })).heap[w.heap.size]? → W3.heap[w.heap.size + 1]? = (X.putObj (w.heap.size + 1) (.loop { rec .ready none with state := .busy })).heap[w.heap.size + 1]? →
        (Instr.endRound (w.heap.size + 1) jump).run P W3 = .ok (.bool jump.isNone) (W3.putObj (w.heap.size + 1) (.loop (rec (if jump.isNone then .ready else .done) jump))) ∧
        (W3.putObj (w.heap.size + 1) (.loop (rec (if jump.isNone then .ready else .done) jump))).heap[w.heap.size + 1]? = some (.loop (rec (if jump.isNone then .ready else .done) jump)) ∧
        (W3.putObj (w.heap.size + 1) (.loop (rec (if jump.isNone then .ready else .done) jump))).heap[w.heap.size]? = some (.deferred (some [])) := fun jump W3 hm3 hr3 => by
      have hl3 := hr3.trans hl2
      have := run_endRound (P := P) jump hl3
      rw [hrec] at this ⊢
      exact ⟨this, World.putObj_heap_same (Array.getElem?_eq_some_iff.1 hl3).1, (World.putObj_heap_other (by omega)).trans (hm3.trans hk2)⟩
    rintro e a3 W3 hp
    cases e with
    | normal =>
      obtain ⟨hm3, hr3, hk3, hi3⟩ := hp
      obtain ⟨hr, hl4, hk4⟩ := fin none W3 hm3 hr3
      exact ⟨_, _, hr, .inl ⟨rfl, ⟨hIp _ _ _ _ hi3 (by omega) (by omega), hl4, hk4⟩, (hw2.trans hk3).trans (keepD_put W3 _ _ hD2)⟩⟩
    | ret =>
      obtain ⟨hm3, hr3, hi3⟩ := hp
      obtain ⟨hr, hl4, hk4⟩ := fin (some .ret) W3 hm3 hr3
      exact ⟨_, _, hr, .inr ⟨rfl, .ret, hXp _ _ _ _ _ hi3 (by omega) (by omega), hl4, hk4⟩⟩
    | exit id =>
      obtain ⟨hm3, hr3, hi3⟩ := hp
      obtain ⟨hr, hl4, hk4⟩ := fin (some (.exit id)) W3 hm3 hr3
      exact ⟨_, _, hr, .inr ⟨rfl, .exit id, hXp _ _ _ _ _ hi3 (by omega) (by omega), hl4, hk4⟩⟩
    | goto t =>
      obtain ⟨hm3, hr3, hi3⟩ := hp
      obtain ⟨hr, hl4, hk4⟩ := fin (some (.goto t)) W3 hm3 hr3
      exact ⟨_, _, hr, .inr ⟨rfl, .goto t, hXp _ _ _ _ _ hi3 (by omega) (by omega), hl4, hk4⟩⟩
    | panic ch => exact hp.elim
    | outgrown => exact hp.elim
  · rintro e W2 ⟨⟨v, rfl⟩, (⟨hi, hl, hk⟩ | ⟨i, hiN, c, hi, hl, hk⟩)⟩
    · exact ⟨none, _, by have := run_endLoop (P := P) hl (by rw [hrec]; simp); rw [hrec] at this; exact this, hdone _ (hIp _ _ _ _ hi (by omega) (by omega)) ((World.putObj_heap_other (by omega)).trans hk)⟩
    · exact ⟨some c, _, by have := run_endLoop (P := P) hl (by rw [hrec]; simp); rw [hrec] at this; exact this, hstop c i _ hiN (hXp _ _ _ _ _ hi (by omega) (by omega)) ((World.putObj_heap_other (by omega)).trans hk)⟩
end Go.Proofs.YtfkojahoaljiaaaDoor

