/- A slice of strings from whose front words are taken and at whose end words are appended; the marks of a function that ranges over functions many times. -/
import Derived.Test.YtjndopogjiacpaaDoorWordSet
import Derived.Test.YtjndopogjiacpaaDoorCollect
import Derived.Test.YtjndopogjiacpaaDoorStrs
import Derived.ArgAppend
namespace Go.Proofs.YtjndopogjiacpaaDoor
open Go.RowKit Go.Shelf

/-- All blocks of W but those of S lie as they lay. -/
structure Turn (S : List Nat) (W W' : World) : Prop where
  os : W'.os = W.os
  tape : W'.tape = W.tape
  output : W'.output = W.output
  size : W.heap.size ≤ W'.heap.size
  block : ∀ k, k < W.heap.size → k ∉ S → W'.heap[k]? = W.heap[k]?
theorem Turn.refl (S : List Nat) (W : World) : Turn S W W := ⟨rfl, rfl, rfl, Nat.le_refl _, fun _ _ _ => rfl⟩
theorem Turn.trans {S : List Nat} {X Y Z : World} (h : Turn S X Y) (k : Turn S Y Z) : Turn S X Z :=
  ⟨k.os.trans h.os, k.tape.trans h.tape, k.output.trans h.output, Nat.le_trans h.size k.size, fun i hi hn => (k.block i (Nat.lt_of_lt_of_le hi h.size) hn).trans (h.block i hi hn)⟩
theorem turn_below {S : List Nat} {W W' : World} (h : Below W.heap.size W W') : Turn S W W' := ⟨h.os, h.tape, h.output, h.size, fun k hk _ => h.block k hk⟩
theorem turn_grown {S : List Nat} {W W' : World} {b : Nat} (h : W.grownBy W' (some b)) (hb : b ∈ S) : Turn S W W' := ⟨h.os, h.tape, h.output, h.size, fun k hk hn => h.block k hk (fun e => hn (by injection e with e; rw [e]; exact hb))⟩
theorem turn_set {S : List Nat} (W : World) (b o : Nat) (u : Value) (hb : b ∈ S) : Turn S W (W.setCell ⟨b, o, none⟩ u) :=
  ⟨rfl, rfl, rfl, by simp [World.size_setCell], fun k _ hn => Below.heap_setCell W ⟨b, o, none⟩ u k (fun e => hn (by rw [e]; exact hb))⟩
theorem Turn.blk {S : List Nat} {W W' : World} (h : Turn S W W') {g : Nat} {t : TypeId} {cs : Array Value} (hb : Blk W g t cs) (hn : g ∉ S) : Blk W' g t cs := (h.block g hb.lt hn).trans hb
theorem Turn.obj {S : List Nat} {W W' : World} (h : Turn S W W') {g : Nat} {o : Obj} (hb : W.heap[g]? = some o) (hn : g ∉ S) : W'.heap[g]? = some o := (h.block g (Array.getElem?_eq_some_iff.1 hb).1 hn).trans hb
theorem Turn.setM {S : List Nat} {W W' : World} (h : Turn S W W') {b : Nat} {Q : List ByteArray} (hb : SetM W b Q) (hn : b ∉ S) : SetM W' b Q := by
  obtain ⟨D, h1, h2⟩ := hb
  have hlt := h1.lt
  obtain ⟨es, clock, hb, r⟩ := h1
  exact ⟨D, ⟨es, clock, (h.block b hlt hn).trans hb, r⟩, h2⟩
theorem Turn.below {S : List Nat} {W W' : World} (h : Turn S W W') {B : Nat} (hS : ∀ b ∈ S, B ≤ b) (hB : B ≤ W.heap.size) : Below B W W' :=
  ⟨h.os, h.tape, h.output, h.size, fun k hk => h.block k (by omega) (fun hm => by have := hS k hm; omega)⟩
theorem Turn.keepsFrom {S : List Nat} {W W' : World} (h : Turn S W W') {B : Nat} (hS : ∀ b ∈ S, b < B ∨ ∃ cs t f, W.heap[b]? = some (.cells cs t f)) : KeepsFrom B W W' :=
  ⟨h.size, fun k o hB hk ho => (h.block k (Array.getElem?_eq_some_iff.1 hk).1 (fun hm => by
    rcases hS k hm with h1 | ⟨cs, t, f, h2⟩
    · omega
    · rw [h2] at hk; cases hk; cases ho)).trans hk⟩
theorem Turn.keeps {S : List Nat} {W W' : World} (h : Turn S W W') {D : Nat → Prop} (hD : ∀ k, D k → k < W.heap.size ∧ k ∉ S) : Keeps D W W' := ⟨h.size, fun k hk => h.block k (hD k hk).1 (hD k hk).2⟩

/-- v holds the words of Q, in block g; what lies behind them may be written. -/
def Wait (W : World) (g : Nat) (v : Value) (Q : List ByteArray) : Prop :=
  ∃ off c cur, v = .slice (some ⟨g, off, none⟩) Q.length c ∧ Q.length ≤ c ∧ c ≤ maxLen ∧ W.heap[g]? = some (.cells cur 9 (0, 0)) ∧ off + c ≤ cur.size ∧ ∀ j y, Q[j]? = some y → cur[off + j]? = some (.string y)
theorem Wait.lt {W : World} {g : Nat} {v : Value} {Q : List ByteArray} (h : Wait W g v Q) : g < W.heap.size := by
  obtain ⟨off, c, cur, _, _, _, hg, _⟩ := h
  exact (Array.getElem?_eq_some_iff.1 hg).1
theorem Wait.turn {S : List Nat} {W W' : World} {g : Nat} {v : Value} {Q : List ByteArray} (h : Wait W g v Q) (ht : Turn S W W') (hn : g ∉ S) : Wait W' g v Q := by
  obtain ⟨off, c, cur, h1, h2, h3, hg, h4⟩ := h
  exact ⟨off, c, cur, h1, h2, h3, ht.obj hg hn, h4⟩
theorem Wait.apart {W : World} {g b : Nat} {v : Value} {Q : List ByteArray} {t : TypeId} {cs : Array Value} (h : Wait W g v Q) (hb : Blk W b t cs) (ht : t ≠ 9) : g ≠ b := by
  obtain ⟨off, c, cur, _, _, _, hg, _⟩ := h
  intro e
  subst e
  unfold Blk at hb
  rw [hg] at hb
  injection hb with hb
  injection hb with _ h _
  exact ht h.symm
theorem wait_kept {W W' : World} {row : Option Nat} {g : Nat} {v : Value} {Q : List ByteArray} (h : Wait W g v Q) (hg : W.grownBy W' row) (hr : ∀ r, row = some r → ∃ o : Obj, W.heap[r]? = some o ∧ o.isCells = false) : Wait W' g v Q := by
  have hlt := h.lt
  obtain ⟨off, c, cur, h1, h2, h3, h4, h5⟩ := h
  exact ⟨off, c, cur, h1, h2, h3, (hg.block g hlt (fun e => by obtain ⟨o, ho, hc⟩ := hr g e.symm; rw [h4] at ho; cases ho; cases hc)).trans h4, h5⟩
theorem slice_rest (g off m c : Nat) : ∃ o, (c = 1 ∧ o = off ∨ o = off + 1) ∧ ∀ W : World, (Instr.slice 76 (.slice (some ⟨g, off, none⟩) (m + 1) c) (some (.int .i64 1)) none none).run Tryd.prog W = .ok (.slice (some ⟨g, o, none⟩) m (c - 1)) W := by
  have hr : ∀ W : World, (Instr.slice 76 (.slice (some ⟨g, off, none⟩) (m + 1) c) (some (.int .i64 1)) none none).run Tryd.prog W = .ok (sliced (some ⟨g, off, none⟩) 1 (m + 1) c 1) W := fun W => by
    rw [run_slice_l W 76 (some ⟨g, off, none⟩) (m + 1) c (by kernel_rfl) .i64 1 (by omega) (by omega), show (sizeOf (Tryd.prog.elem 76)).run Tryd.prog W = .ok 1 W from by kernel_rfl]; rfl
  by_cases hc : c = 1
  · refine ⟨off, .inl ⟨hc, rfl⟩, fun W => ?_⟩
    rw [hr, sliced, if_pos hc]; rfl
  · refine ⟨off + 1, .inr rfl, fun W => ?_⟩
    rw [hr, sliced, if_neg hc]; rfl
/-- The first word, and what is left. -/
theorem Wait.head {W : World} {g : Nat} {v : Value} {y : ByteArray} {Q : List ByteArray} (h : Wait W g v (y :: Q)) :
    ∃ off c m, Q.length = m ∧ v = .slice (some ⟨g, off, none⟩) (m + 1) c ∧ m + 1 ≤ c ∧ c ≤ maxLen ∧ W.cell? ⟨g, off, none⟩ = some (.string y) ∧ ∃ o, (∀ W : World, (Instr.slice 76 (.slice (some ⟨g, off, none⟩) (m + 1) c) (some (.int .i64 1)) none none).run Tryd.prog W = .ok (.slice (some ⟨g, o, none⟩) m (c - 1)) W) ∧ Wait W g (.slice (some ⟨g, o, none⟩) m (c - 1)) Q := by
  obtain ⟨off, c, cur, h1, h2, h3, hg, h4, h5⟩ := h
  rw [List.length_cons] at h1 h2
  obtain ⟨o, ho, hr⟩ := slice_rest g off Q.length c
  refine ⟨off, c, Q.length, rfl, h1, h2, h3, ?_, o, hr, o, c - 1, cur, rfl, by omega, by omega, hg, ?_, fun j z hj => ?_⟩
  · rw [cell_of_row _ _ _ _ _ _ hg]; exact h5 0 y rfl
  · rcases ho with ⟨_, _⟩ | _ <;> omega
  · rcases ho with ⟨ho, _⟩ | rfl
    · have := (List.getElem?_eq_some_iff.1 hj).1
      omega
    · have := h5 (j + 1) z hj
      rwa [show off + (j + 1) = off + 1 + j by omega] at this
theorem Wait.ofRow {W : World} {b g c : Nat} {Q : List ByteArray} (h : W.ownsRow b 9 1 (.slice (some ⟨g, 0, none⟩) Q.length c) Q.length (strs Q)) : Wait W g (.slice (some ⟨g, 0, none⟩) Q.length c) Q := by
  rcases h.2 with ⟨h, _⟩ | ⟨g', cap, cur, e, _, hg, h1, h2, h3, h4⟩
  · injection h with h; cases h
  · injection e with e1 e2 e3
    injection e1 with e1
    injection e1 with e1 _ _
    subst e1; subst e3
    refine ⟨0, c, cur, rfl, h1, h2, hg, by omega, fun j y hj => ?_⟩
    have hjl := (List.getElem?_eq_some_iff.1 hj).1
    have h5 : (strs Q)[j]? = some (.string y) := by simp [strs, hj]
    rw [← h4, List.getElem?_take_of_lt (by omega)] at h5
    rw [Nat.zero_add]; simpa using h5
theorem setCells_one (W : World) (b o : Nat) (u : Value) : W.setCells b o [u] = W.setCell ⟨b, o, none⟩ u := rfl
/-- A word more at the end. -/
theorem Wait.append {W : World} {g : Nat} {v : Value} {Q : List ByteArray} (h : Wait W g v Q) (ty : TypeId) (y : ByteArray) (hl : Q.length + 1 ≤ 87381) {ad : Addr} (had : W.cell? ad = some (.string y)) :
    ∃ v' w' g', (Builtin.append_ #[76, 76] ty #[v, .slice (some ad) 1 1]).run Tryd.prog W = .ok v' w' ∧ Wait w' g' v' (Q ++ [y]) ∧ Turn [g] W w' ∧ (g' = g ∨ W.heap.size ≤ g') := by
  obtain ⟨i0, hi, hz0, hz1, hz2⟩ := info_parts infoStr
  obtain ⟨off, c, cur, rfl, h2, h3, hg, h4, h5⟩ := h
  have hnews : ∀ j u, ([Value.string y] : List Value)[j]? = some u → W.cell? (ad.add j) = some u := by
    intro j u hj
    match j, hj with
    | 0, hj => simp at hj; subst hj; rw [Addr.add_zero']; exact had
  by_cases hroom : Q.length + 1 ≤ c
  · have hlt : off + Q.length < cur.size := by omega
    have hc1 : W.cell? ⟨g, off + Q.length, none⟩ = some cur[off + Q.length] := by rw [cell_of_row _ _ _ _ _ _ hg, Array.getElem?_eq_getElem hlt]
    have hrun := run_append_room_cells (P := Tryd.prog) W 76 ty 9 i0 Tryd.underlying76 hi g off Q.length c ad 1 1 [.string y] (by simp [hz1]) hnews (by intro u hu; simp at hu; subst hu; rfl) hroom
      (fun j hj => by have : j = 0 := by simpa using hj
                      subst this; rw [hz1, Nat.mul_one, Nat.add_zero, hc1]; rfl)
      (fun j hj => by simp [World.frozen?, hg])
    rw [hz1, Nat.mul_one, setCells_one] at hrun
    refine ⟨_, _, g, hrun, ⟨off, c, cur.setIfInBounds (off + Q.length) (.string y), by rw [List.length_append]; rfl, by rw [List.length_append]; exact hroom, h3, ?_, by simpa using h4, fun j z hj => ?_⟩, turn_set W g _ _ (List.mem_singleton.2 rfl), .inl rfl⟩
    · exact (Blk.set_ (show Blk W g 9 cur from hg) (off + Q.length) (.string y))
    · by_cases hjq : j < Q.length
      · rw [List.getElem?_append_left hjq] at hj
        rw [Array.getElem?_setIfInBounds_ne (by omega)]
        exact h5 j z hj
      · have hj' : j = Q.length := by
          have := (List.getElem?_eq_some_iff.1 hj).1
          simp at this; omega
        subst hj'
        rw [List.getElem?_append_right (Nat.le_refl _), Nat.sub_self] at hj
        simp at hj
        subst hj
        rw [Array.getElem?_setIfInBounds_self_of_lt hlt]
  · obtain ⟨v', w', hrun, hown, hgr⟩ := run_append_arg_grows (P := Tryd.prog) W 76 ty 9 i0 (.string ⟨#[]⟩) 1 16 Tryd.underlying76 hi hz0 hz1 hz2 rfl (by decide) ⟨g, off, none⟩ Q.length c (strs Q) (by rw [strs_length]; omega)
      (fun j u hj => by
        have hjl := (List.getElem?_eq_some_iff.1 hj).1
        rw [strs_length] at hjl
        have e : u = .string Q[j] := by
          have h6 : (strs Q)[j]? = some (.string Q[j]) := by simp [strs, hjl]
          rw [h6] at hj; exact (Option.some.inj hj).symm
        rw [e, show (⟨g, off, none⟩ : Addr).add j = ⟨g, off + j, none⟩ by simp [Addr.add], cell_of_row _ _ _ _ _ _ hg]
        exact h5 j _ (List.getElem?_eq_getElem hjl))
      ad 1 1 [.string y] (by simp) hnews (by omega) (by unfold maxLen; omega) (by omega)
    have hown2 : w'.ownsRow W.heap.size 9 1 v' (Q ++ [y]).length (strs (Q ++ [y])) := by
      rw [List.length_append]
      have e : strs (Q ++ [y]) = strs Q ++ [Value.string y] := by simp [strs]
      rw [e]; exact hown
    rcases hown2.2 with ⟨h, h0⟩ | ⟨g', cap, cur', e, hb, _⟩
    · simp at h0
    · subst e
      exact ⟨_, w', g', hrun, Wait.ofRow hown2, ⟨hgr.os, hgr.tape, hgr.output, hgr.size, fun k hk _ => hgr.block k hk (by simp)⟩, .inr hb⟩

theorem Turn.mono {S S' : List Nat} {W W' : World} (h : Turn S W W') (hs : ∀ b ∈ S, b ∈ S') : Turn S' W W' := ⟨h.os, h.tape, h.output, h.size, fun k hk hn => h.block k hk (fun hm => hn (hs k hm))⟩
theorem wpListIn_append_wait {F : Fence} {n : Nat} (w : World) {ops : Array Oper} {rest : List Oper} {o : Oper} {a : Act} {Q : Exit → Act → World → Prop} (hgd : o.guard = none) (s x : Operand) (hop : o.op = Op.call { callee := Callee.builtin Builtin.append, args := #[s, x], argTypes := #[76, 76] })
    {g : Nat} {v : Value} {ws : List ByteArray} {y : ByteArray} {ad : Addr} (hq : Wait w g v ws) (hl : ws.length + 1 ≤ 87381) (hs : a.eval s = v) (hx : a.eval x = .slice (some ad) 1 1) (had : w.cell? ad = some (.string y))
    (hK : ∀ v' w' g', Wait w' g' v' (ws ++ [y]) → Turn [g] w w' → (g' = g ∨ w.heap.size ≤ g') → wpListIn F n Tryd.prog ops Q rest (a.put o.dst v') w') :
    wpListIn F n Tryd.prog ops Q (o :: rest) a w := by
  refine wpListIn_plain hgd fun K hK' => ?_
  obtain ⟨v', w', g', hrun, r1, r2, r3⟩ := hq.append o.type y hl had
  unfold Oper.wpIn
  refine ⟨?_, ?_⟩
  · simp [Oper.about, hop, resolve, Target.leads, Sem.run_pure]
  · rw [Oper.semAt_plain F _ _ (by rw [hop]; intro c hc'; cases hc')]
    simp [execOp, hop, resolve, invoke, builtin, hs, hx, hrun, Result.andThen]
    exact hK' _ _ (hK v' w' g' r1 r2 r3)

/-- A function that has ranged over functions leaves: its marks, one by one. -/
def markD (D : Nat) : Deferred := { target := .collected D, args := #[] }
theorem leaves_marks {F : Fence} {n : Nat} {P : Program} {fn : Func} {tmps : Array Value} {R : Ending → World → Prop} {v : Value} {B : Nat} (hres : ∀ w, (results fn tmps).run P w = .ok v w) :
    ∀ (Ds : List Nat) (w : World), Ds.Nodup → B ≤ w.heap.size → (∀ D ∈ Ds, B ≤ D ∧ w.heap[D]? = some (.deferred (some []))) → (∀ w', Below B w w' → R (.returned v) w') → LeavesInM F n P fn tmps R (Ds.map markD) .returning w
  | [], w, _, _, _, hR => ⟨v, hres w, hR w (Below.refl _ _)⟩
  | D :: Ds, w, hd, hB, hm, hR => by
    obtain ⟨h1, h2⟩ := hm D (List.mem_cons_self ..)
    have hd' := List.nodup_cons.1 hd
    refine ⟨by simp, .inl ⟨D, _, rfl, run_takeDeferred h2, ?_⟩⟩
    have hlt := (Array.getElem?_eq_some_iff.1 h2).1
    have hbel : Below B w (w.putObj D (.deferred none)) := (Below.refl B w).grown (grownBy_putObj' w D _) hB (fun k e => by cases e; exact h1)
    refine leaves_marks hres Ds _ hd'.2 (Nat.le_trans hB hbel.size) (fun E hE => ?_) (fun w' hw => hR w' (hbel.trans hw))
    obtain ⟨h3, h4⟩ := hm E (List.mem_cons_of_mem _ hE)
    exact ⟨h3, (World.putObj_heap_other (fun e => hd'.1 (by rw [e] at hE; exact hE))).trans h4⟩
end Go.Proofs.YtjndopogjiacpaaDoor
