/- Maps keyed by rules whose elements are slices: what the walk asks of them. -/
import Derived.Test.YtpmghdecfpfahaaHasRule
import Derived.Maps.RangeWalk
import Derived.Maps.OwnSet
import Derived.Maps.OwnOps
import Derived.Maps.AppendAt
import Derived.DeepKeys4
import Derived.WideKeyEntry
import Derived.Lib.SmallJoins
namespace Go.Proofs.Ytpmghdecfpfahaa
open Go.RowKit Go.Maps Go.WideShapes
open Go.ChangeMaps (setBlock heap_setBlock_same heap_setBlock_other)

theorem ruleRow : 34 < Try.prog.types.size := of_decide_eq_true (by kernel_rfl)
theorem keyLawRule : WideMaps.KeyLaw Try.prog 34 := deep_law_laid laidOut (m := 2) (by omega) ruleRow (by kernel_rfl) (by kernel_rfl)
theorem keyedRule : Keyed Try.prog 34 := Keyed.of_law keyLawRule
def small (r : R) : Prop := r.1.size ≤ maxLen ∧ r.2.size ≤ maxLen
/-- What a rule reads as, as a key. -/
def keyR (r : R) : Lit := .string (keyBytes [.string r.1.data.toList, .string r.2.data.toList])
theorem key_rule (r : R) (h : small r) : keyOf Try.prog 34 (ruleV r) = some (keyR r) := by
  have hk : Try.prog.keyType 34 = true := by kernel_rfl
  have hc : Try.prog.cellsOf 34 = 2 := by kernel_rfl
  have hs : Try.prog.cellsOf 9 = 1 := by kernel_rfl
  have hn : ∃ m, Try.prog.types.size + 1 = m + 1 + 1 := ⟨Try.prog.types.size - 1, by have := ruleRow; omega⟩
  obtain ⟨m, hm⟩ := hn
  unfold keyOf
  rw [Try.underlying34, hm]
  simp [Value.formed, Value.cells, hk, hc, hs, Program.keyLits, Try.underlying34, Try.underlying9, h.1, h.2, keyR]
theorem key_inv (v : Value) (kl : Lit) (h : keyOf Try.prog 34 v = some kl) : ∃ r : R, small r ∧ v = ruleV r ∧ kl = keyR r := by
  have hc : Try.prog.cellsOf 34 = 2 := by kernel_rfl
  have hs : Try.prog.cellsOf 9 = 1 := by kernel_rfl
  have hn : ∃ m, Try.prog.types.size + 1 = m + 1 + 1 := ⟨Try.prog.types.size - 1, by have := ruleRow; omega⟩
  obtain ⟨m, hm⟩ := hn
  unfold keyOf at h
  rw [Try.underlying34, hm] at h
  cases v <;> simp [Value.formed, Try.underlying34, hc] at h
  obtain ⟨⟨hkt, hcs⟩, a, ha, rfl⟩ := h
  obtain ⟨c0, c1, rfl⟩ := Go.Joins.array2 hcs
  cases c0 <;> cases c1 <;> simp [Value.cells, Program.keyLits, Try.underlying34, Try.underlying9, hc, hs] at ha
  rename_i s1 s2
  by_cases h1 : s1.size ≤ maxLen <;> by_cases h2 : s2.size ≤ maxLen <;> simp [h1, h2] at ha
  subst ha
  exact ⟨(s1, s2), ⟨h1, h2⟩, rfl, rfl⟩
theorem keyR_inj {r r' : R} (h : small r) (h' : small r') (e : keyR r = keyR r') : r = r' := by
  have h1 := key_rule r h
  have h2 := key_rule r' h'
  rw [← e] at h2
  have := keyedRule.inj h1 h2
  injection this with this
  injection this with this
  simp at this
  exact Prod.ext this.1 this.2
theorem keyR_isKey (r : R) (h : small r) : WideAt.IsKeyLit (keyR r) := keyedRule.key (key_rule r h)

/-- An element of such a map: a slice's value, taken as it is. -/
def sliceE : Value → Option (DataW Value × List MemPlace)
  | .slice a n c => some (.held (.slice a n c), [])
  | _ => none
theorem sliceE_inv {v : Value} {y : DataW Value × List MemPlace} (h : sliceE v = some y) : ∃ t : Option Addr × Nat × Nat, v = .slice t.1 t.2.1 t.2.2 := by
  cases v <;> simp [sliceE] at h
  exact ⟨(_, _, _), rfl⟩
theorem sliceE_held {v : Value} {y : DataW Value × List MemPlace} (h : sliceE v = some y) : y.1 = .held v := by
  cases v <;> simp [sliceE] at h
  rw [← h]
def nilS : Value := .slice none 0 0
def nilD : DataW Value := .held nilS
theorem zeroSl (w : World) : (zeroValue 51).run Try.prog w = .ok nilS w := by kernel_rfl

theorem entry_round {w : World} {b n : Nat} {D : DataW Value} (h : w.ownsMap Try.prog 34 sliceE b n D) (hn : n < maxLen) (r : R) (hr : small r) {v : Value} (hv : D.atKey (keyR r) nilD = .held v) :
    ∃ (st : Nat) (w2 : World), (Instr.mapEntry 49 (.map (some b)) (ruleV r)).run Try.prog w = .ok (.tuple #[v, .int .i64 st]) w2 ∧ w.mapTurned w2 b ∧
      ∀ (w3 : World) (val : Value), sliceE val = some (.held val, []) → w3.heap[b]? = w2.heap[b]? → ∃ w4, (Instr.entryStore 49 (.map (some b)) (.int .i64 st) val).run Try.prog w3 = .ok () w4 ∧ w3.mapTurned w4 b ∧
        w4.ownsMap Try.prog 34 sliceE b (n + 1) (D.put (keyR r) (.held val)) := by
  have h0 := h
  obtain ⟨es, clock, hb, F, hs, rfl⟩ := h
  have hkey := key_rule r hr
  obtain ⟨v0, st, es1, clock1, hE, hcase, hS⟩ := WideElems.entry_then_store keyLawRule Try.underlying49 zeroSl hb F hkey
  have hv0 : v0 = v := by
    rcases fit_look false keyedRule Try.underlying49 (zeroSl w) hb F hkey with ⟨-, hno, hat⟩ | ⟨e0, y, hm, hk, -, hy, hat, -⟩
    · rw [hat nilD] at hv
      rcases hcase with ⟨e0, hm, hk, -⟩ | ⟨-, rfl⟩
      · exact absurd hk (hno e0 hm)
      · injection hv
    · rw [hat nilD, sliceE_held hy] at hv
      injection hv with hv
      rcases hcase with ⟨e1, hm1, hk1, rfl⟩ | ⟨hno, -⟩
      · rw [← hv]
        have hap : es.toList.Pairwise (fun x y => x.key ≠ y.key) := ((Go.MapKept.stamped_iff es clock).1 F.stamped).2.2
        rw [List.pairwise_iff_getElem] at hap
        obtain ⟨i, hi, hie⟩ := List.getElem_of_mem hm
        obtain ⟨j, hj, hje⟩ := List.getElem_of_mem hm1
        have hij : i = j := by
          rcases Nat.lt_trichotomy i j with hlt | heq | hlt
          · exact absurd (by rw [hie, hje, hk, hk1]) (hap i j hi hj hlt)
          · exact heq
          · exact absurd (by rw [hie, hje, hk, hk1]) (hap j i hj hi hlt)
        subst hij
        rw [hie] at hje
        rw [hje]
      · exact absurd hk (hno e0 hm)
  subst hv0
  refine ⟨st, setBlock w b (.map es1 clock1), hE, ⟨es, clock, es1, clock1, hb, rfl⟩, fun w3 val hval hw3 => ?_⟩
  rw [heap_setBlock_same hb] at hw3
  obtain ⟨es', clock', hrun, hup⟩ := hS w3 val hw3
  obtain ⟨w', hrun', hown', -⟩ := h0.store keyedRule Try.underlying49 hn hkey hval
  rw [hup] at hrun'
  obtain rfl : w' = setBlock w b (.map es' clock') := by injection hrun' with _ e; exact e.symm
  refine ⟨_, hrun, ⟨es1, clock1, es', clock', hw3, rfl⟩, ?_⟩
  obtain ⟨es2, clock2, hb2, F2, hs2, hD2⟩ := hown'
  rw [heap_setBlock_same hb] at hb2
  refine ⟨es2, clock2, ?_, F2, hs2, hD2⟩
  rw [heap_setBlock_same hw3, hb2]

/-- The places at which a list holds r. -/
def pl (l : List R) (r : R) : List Nat := (List.range l.length).filter fun i => decide (l[i]? = some r)
def intsV (l : List Nat) : List Value := l.map fun i : Nat => .int .i64 (i : Int)
theorem pl_nil (r : R) : pl [] r = [] := rfl
theorem pl_step (l : List R) (j : Nat) (x r : R) (h : l[j]? = some x) : pl (l.take (j + 1)) r = pl (l.take j) r ++ (if x = r then [j] else []) := by
  have hj := (List.getElem?_eq_some_iff.1 h).1
  unfold pl
  rw [List.length_take, List.length_take, show min (j + 1) l.length = j + 1 by omega, show min j l.length = j by omega, List.range_succ, List.filter_append]
  congr 1
  · refine List.filter_congr fun i hi => ?_
    have hij : i < j := List.mem_range.1 hi
    rw [List.getElem?_take_of_lt (by omega), List.getElem?_take_of_lt hij]
  · have hx : (l.take (j + 1))[j]? = some x := by rw [List.getElem?_take_of_lt (by omega), h]
    simp only [List.filter_cons, List.filter_nil, hx, Option.some.injEq]
    by_cases e : x = r <;> simp [e]
theorem pl_mem (l : List R) (r : R) (i : Nat) : i ∈ pl l r ↔ l[i]? = some r := by
  unfold pl
  rw [List.mem_filter, List.mem_range]
  constructor
  · rintro ⟨-, h⟩; simpa using h
  · intro h; exact ⟨(List.getElem?_eq_some_iff.1 h).1, by simpa using h⟩
/-- Two lists are one just if every rule stands at the same places. -/
theorem pl_ext (s t : List R) (h1 : ∀ r, pl s r ≠ [] → pl s r = pl t r) (h2 : ∀ r, pl t r ≠ [] → pl s r ≠ []) : s = t := by
  apply List.ext_getElem?
  intro i
  cases hs : s[i]? with
  | some r =>
    have hm := (pl_mem s r i).2 hs
    rw [h1 r (List.ne_nil_of_mem hm)] at hm
    exact ((pl_mem t r i).1 hm).symm
  | none =>
    cases ht : t[i]? with
    | none => rfl
    | some r =>
      have hm := (pl_mem t r i).2 ht
      have hn := h2 r (List.ne_nil_of_mem hm)
      rw [← h1 r hn] at hm
      rw [(pl_mem s r i).1 hm] at hs
      cases hs

/-- Block b is a map that holds, at each rule r, a slice of the numbers f r in memory from base on; no two slices lie in one block. -/
def PM (base : Nat) (w : World) (b n : Nat) (f : R → List Nat) (D : DataW Value) (V : R → Value) : Prop :=
  w.ownsMap Try.prog 34 sliceE b n D ∧ b < base ∧ (∀ kl, Maps.has D kl = true → ∃ r, small r ∧ kl = keyR r ∧ f r ≠ []) ∧ (∀ r, small r → f r ≠ [] → Maps.has D (keyR r) = true) ∧
  (∀ r, small r → D.atKey (keyR r) nilD = .held (V r)) ∧ (∀ r, small r → w.ownsRow base 3 1 (V r) (f r).length (intsV (f r))) ∧
  (∀ r r', small r → small r' → r ≠ r' → (V r).ownBlock = none ∨ (V r).ownBlock ≠ (V r').ownBlock)
theorem grown_of_below {w w' : World} (hb : Below w.heap.size w w') (row : Option Nat) : w.grownBy w' row := ⟨hb.os, hb.tape, hb.output, hb.size, fun i hi _ => hb.block i hi⟩
theorem PM.below {base b n : Nat} {w w' : World} {f : R → List Nat} {D : DataW Value} {V : R → Value} (h : PM base w b n f D V) (hb : Below w.heap.size w w') : PM base w' b n f D V := by
  obtain ⟨h1, h2, h3, h4, h5, h6, h7⟩ := h
  exact ⟨h1.kept (grown_of_below hb none) (by simp), h2, h3, h4, h5, fun r hr => ownsRow_below (h6 r hr) hb, h7⟩
theorem PM.start (w : World) : PM (w.heap.size + 1) (w.alloc (.map #[] 0)) w.heap.size 0 (pl []) (.map []) (fun _ => nilS) := by
  refine ⟨World.ownsMap_made _ _ _ _, Nat.lt_succ_self _, fun kl h => ?_, fun r _ h => absurd (pl_nil r) h, fun r _ => rfl, fun r _ => World.ownsRow_nil _ _ _ _, fun r r' _ _ _ => Or.inl rfl⟩
  simp [Maps.has] at h
theorem own_ne_b {w : World} {base e n b : Nat} {v : Value} {xs : List Value} (h : w.ownsRow base e 1 v n xs) (hb : b < base) : v.ownBlock = none ∨ v.ownBlock ≠ some b :=
  Or.inr fun e => by have := (h.lt b e).1; omega
theorem PM.step {base b n j : Nat} {W1 w2 w3 w4 : World} {f : R → List Nat} {D : DataW Value} {V : R → Value} (h : PM base W1 b n f D V) (r : R) (hr : small r) {v' : Value} (t2 : W1.mapTurned w2 b) (g3 : w2.grownBy w3 (V r).ownBlock)
    (hrow : w3.ownsRow base 3 1 v' ((f r).length + 1) (intsV (f r) ++ [.int .i64 (j : Int)])) (hloc : v'.ownBlock = (V r).ownBlock ∨ v'.ownBlock = some w2.heap.size) (t4 : w3.mapTurned w4 b)
    (hown : w4.ownsMap Try.prog 34 sliceE b (n + 1) (D.put (keyR r) (.held v'))) :
    PM base w4 b (n + 1) (fun x => f x ++ (if r = x then [j] else [])) (D.put (keyR r) (.held v')) (fun x => if r = x then v' else V x) := by
  obtain ⟨h1, h2, h3, h4, h5, h6, h7⟩ := h
  have hk := keyR_isKey r hr
  have hne : ∀ x, small x → r ≠ x → keyR x ≠ keyR r := fun x hx hn e => hn (keyR_inj hr hx e.symm)
  have hs2 : W1.heap.size ≤ w2.heap.size := t2.grown.size
  have hlt : ∀ x, small x → (V x).ownBlock ≠ some w2.heap.size := fun x hx e => by have := ((h6 x hx).lt _ e).2; omega
  refine ⟨hown, h2, fun kl hkl => ?_, fun x hx hf => ?_, fun x hx => ?_, fun x hx => ?_, fun x y hx hy hxy => ?_⟩
  · by_cases e : kl = keyR r
    · exact ⟨r, hr, e, by simp⟩
    · rw [has_put_other e] at hkl
      obtain ⟨x, hx, ex, hf⟩ := h3 kl hkl
      exact ⟨x, hx, ex, by simp [hf]⟩
  · by_cases e : r = x
    · subst e; exact has_put_same h1.isMap hk _
    · rw [has_put_other (hne x hx e)]
      dsimp only at hf
      rw [if_neg e, List.append_nil] at hf
      exact h4 x hx hf
  · dsimp only
    by_cases e : r = x
    · subst e; rw [if_pos rfl, atKey_put_same h1.isMap hk]
    · rw [if_neg e, atKey_put_other (hne x hx e)]
      exact h5 x hx
  · dsimp only
    by_cases e : r = x
    · subst e
      rw [if_pos rfl, if_pos rfl, List.length_append, show intsV (f r ++ [j]) = intsV (f r) ++ [.int .i64 (j : Int)] by simp [intsV]]
      exact hrow.kept t4.grown (own_ne_b hrow h2)
    · rw [if_neg e, if_neg e, List.append_nil]
      have k2 := (h6 x hx).kept t2.grown (own_ne_b (h6 x hx) h2)
      have k3 := k2.kept g3 (h7 x r hx hr (fun h => e h.symm))
      exact k3.kept t4.grown (own_ne_b k3 h2)
  · dsimp only
    by_cases e : r = x
    · subst e
      rw [if_pos rfl, if_neg hxy]
      rcases hloc with hl | hl
      · rw [hl]; exact h7 r y hr hy hxy
      · rw [hl]; exact Or.inr fun e => hlt y hy e.symm
    · by_cases e' : r = y
      · subst e'
        rw [if_neg e, if_pos rfl]
        rcases hloc with hl | hl
        · rw [hl]; exact h7 x r hx hr hxy
        · rw [hl]; exact Or.inr (hlt x hx)
      · rw [if_neg e, if_neg e']
        exact h7 x y hx hy hxy
theorem pl_fun (l : List R) (j : Nat) (x : R) (h : l[j]? = some x) : (fun r => pl (l.take j) r ++ (if x = r then [j] else [])) = pl (l.take (j + 1)) := by
  funext r; exact (pl_step l j x r h).symm
theorem infoInt : (Try.prog.info? 3).map (fun i => (i.zero, i.size, i.bytes)) = some (some (.int .i64 0), 1, 8) := by kernel_rfl

set_option maxRecDepth 100000 in
set_option maxHeartbeats 1600000 in
theorem rulePlaces_any (A : Option Addr) (n c B : Nat) (l : List R) (w : World) (h : Own B w (.slice A n c) 2 n (rulesC l)) (hsm : smallR l) (hn : n ≤ 1048576) :
    Calls Try.prog 27 #[.slice A n c] w fun e w' => ∃ D V, e = .returned (.map (some w.heap.size)) ∧ PM (w.heap.size + 1) w' w.heap.size n (pl l) D V ∧ Below w.heap.size w w' := by
  obtain ⟨i0, hi, hz0, hz1, hz2⟩ := infoR_parts infoInt
  have hmax := h.bound
  have Hlen := Lib.hid h.rlen
  unfold maxLen at hmax
  have HO := Lib.hid h
  have Hsm := Lib.hid hsm
  clear h hsm
  have hmm := @run_makeMap Try.prog
  go_enter Try.func27, Try.ntmps27
  go_wp2_with fail
  go_loopw [9] (fun i wr => ∃ j : Nat, j ≤ n ∧ i = .int .i64 j ∧ Hid (∃ D V, PM (w.heap.size + 1) wr w.heap.size j (pl (l.take j)) D V) ∧ Below w.heap.size w wr ∧ w.heap.size + 1 ≤ wr.heap.size) (fun i _ => n - (intOf i).toNat)
  case atStart => exact ⟨0, Nat.zero_le _, rfl, ⟨_, _, PM.start w⟩, bel1 _ _, by simp⟩
  case round =>
    obtain ⟨j, hj, rfl, ⟨D, V, HP⟩, hb, hbs1⟩ := hrel
    have hbs := hb.size
    by_cases hlt : j < n
    · obtain ⟨g, off, c0, hv⟩ := HO.out.formR (by omega)
      obtain ⟨rfl, rfl⟩ : A = some ⟨g, off, none⟩ ∧ c = c0 := by injection hv with a _ b; exact ⟨a, b⟩
      clear hv
      obtain ⟨-, hgl, ⟨u, v⟩, hr, x0, x1, -, -⟩ := (HO.out.below hb).rule hlt
      have hsz := Hsm.out _ (List.mem_of_getElem? hr)
      have hsr : small (u, v) := ⟨Nat.le_trans hsz.1 (by unfold maxLen; omega), Nat.le_trans hsz.2 (by unfold maxLen; omega)⟩
      have HP1 := Lib.hid (HP.below (bel2 wr (.cells #[.string u, .string v] 34) (.cells #[.int .i64 (j : Int)] 3)))
      have hpf := Lib.hid (pl_fun l j _ hr)
      obtain ⟨st, w2, hE, ht2, hS⟩ := entry_round HP1.out.1 (by unfold maxLen; omega) (u, v) hsr (HP1.out.2.2.2.2.1 _ hsr)
      change Sem.run _ (Instr.mapEntry _ _ (.agg #[.string u, .string v])) _ = _ at hE
      have hrow := HP1.out.2.2.2.2.2.1 _ hsr
      have hrow2 := Lib.hid (hrow.kept ht2.grown (own_ne_b hrow (Nat.lt_succ_self _)))
      have hpl : (pl (l.take j) (u, v)).length ≤ 1048576 := by
        refine Nat.le_trans (List.length_filter_le _ _) ?_
        rw [List.length_range, List.length_take]; omega
      have y0 : w2.cell? ⟨wr.heap.size + 1, 0, none⟩ = some (.int .i64 (j : Int)) := by
        have := World.cell?_of_block (w := (wr.alloc (.cells #[.string u, .string v] 34)).alloc (.cells #[.int .i64 (j : Int)] 3)) (w' := w2) (a := ⟨wr.heap.size + 1, 0, none⟩) (ht2.grown.block (wr.heap.size + 1) (by simp) (by simp; omega))
        rw [this]; exact (Blk.new2 wr _ _ _).cell 0
      have hs2 : wr.heap.size + 1 + 1 ≤ w2.heap.size := by have := ht2.grown.size; simpa using this
      have Hsr := Lib.hid hsr
      have HS := Lib.hid hS
      have HT2 := Lib.hid ht2
      generalize hvv : V (u, v) = v0 at *
      generalize hff : pl (l.take j) (u, v) = f0 at *
      have Hvv := Lib.hid hvv
      have Hff := Lib.hid hff
      clear hr hsz hsr hS ht2 hrow hvv hff HP
      go_wp2_with (at_builtin; refine wpList_append_own_at _ rfl _ _ 51 rfl (w.heap.size + 1) 3 i0 (.int .i64 0) 1 8 Try.underlying51 hi hz0 hz1 hz2 rfl (by decide) _ _ _ rfl hrow2.out ⟨wr.heap.size + 1, 0, none⟩ 1 1 [.int .i64 (j : Int)] rfl rfl ?c1 ?c2 ?c3 ?c4 ?c5 ?_)
      case c1 =>
        intro i x hi
        match i, hi with
        | 0, hi => simp at hi; subst hi; exact y0
      case c2 => rfl
      case c3 => unfold maxLen; omega
      case c4 => omega
      case c5 => omega
      intro v' w3 hown' hgrow _ hloc
      obtain ⟨g4, o4, c4, hv4⟩ := (Own.of_row hown').formR (by omega)
      subst hv4
      have hbk : w3.heap[w.heap.size]? = w2.heap[w.heap.size]? := hgrow.block w.heap.size (by omega) (fun e => by
        rcases own_ne_b hrow2.out (Nat.lt_succ_self _) with h | h
        · rw [h] at e; cases e
        · exact h e.symm)
      obtain ⟨w4, hrun, ht4, hown4⟩ := HS.out w3 (.slice (some ⟨g4, o4, none⟩) (f0.length + 1) c4) rfl hbk
      have hP4 := PM.step (j := j) HP1.out (u, v) Hsr.out HT2.out (by rw [Hvv.out]; exact hgrow) (by rw [Hff.out]; exact hown') (by rw [Hvv.out]; exact hloc) ht4 hown4
      rw [hpf.out] at hP4
      have HP4 := Lib.hid hP4
      have b1 := hb.trans ((bel2 wr (.cells #[.string u, .string v] 34) (.cells #[.int .i64 (j : Int)] 3)).mono hbs)
      have b2 : Below w.heap.size w w2 := b1.grown HT2.out.grown (by simp; omega) (fun k e => by injection e with e; omega)
      have b3 : Below w.heap.size w w3 := b2.grown hgrow (by omega) (fun k e => by have := (hrow2.out.lt k e).1; omega)
      have b4 : Below w.heap.size w w4 := b3.grown ht4.grown b3.size (fun k e => by injection e with e; omega)
      have s4 : w.heap.size + 1 ≤ w4.heap.size := by have := hgrow.size; have := ht4.grown.size; omega
      clear hP4 b1 b2 b3 hgrow hown' hown4 ht4 hloc hbk hE y0 hb hs2 hpl hrow2
      go_wp2_with fail
      go_roundw
      case rel => exact ⟨j + 1, by omega, by go_num, ⟨_, _, HP4.out⟩, b4, s4⟩
      case measure => simp [intOf]; omega
    · obtain rfl : j = n := by omega
      rw [List.take_of_length_le (by rw [Hlen.out]; exact Nat.le_refl _)] at HP
      have HP1 := Lib.hid HP
      clear HP
      go_wp2_with fail
      go_ret
      exact ⟨D, V, rfl, HP1.out, hb⟩
end Go.Proofs.Ytpmghdecfpfahaa
