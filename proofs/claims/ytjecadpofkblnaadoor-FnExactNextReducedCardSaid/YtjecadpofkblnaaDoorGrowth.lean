/- How many reduced words there are of each length: language.growth. -/
import Derived.Test.YtjecadpofkblnaaDoorTallies
import Derived.Test.YtjecadpofkblnaaDoorInts
import Derived.OwnWalkIn
namespace Go.Proofs.YtjecadpofkblnaaDoor
open Go.RowKit Go.Maps Go.Shelf
attribute [local go_sem] Oper.semAt_some

/-- The numbers for the lengths up to n, without n. -/
def growL (l : List R) (k n : Nat) : List Int := (List.range n).map fun i => wr (countN l k i)
theorem growL_len (l : List R) (k n : Nat) : (growL l k n).length = n := by simp [growL]
theorem growL_step (l : List R) (k n : Nat) : growL l k (n + 1) = growL l k n ++ [wr (countN l k n)] := by simp [growL, List.range_succ]

theorem ownsRow_same {W W' : World} {base : Nat} {e : TypeId} {size n : Nat} {v : Value} {xs : List Value} (h : W.ownsRow base e size v n xs) (hb : ∀ b, base ≤ b → b < W.heap.size → some b = v.ownBlock → W'.heap[b]? = W.heap[b]?) : W'.ownsRow base e size v n xs := by
  refine ⟨h.1, ?_⟩
  rcases h.2 with h2 | ⟨g, cp, cur, e, hg, hh, r⟩
  · exact Or.inl h2
  · exact Or.inr ⟨g, cp, cur, e, hg, (hb g hg (Array.getElem?_eq_some_iff.1 hh).1 (by rw [e]; rfl)).trans hh, r⟩
theorem ownsRow_cells {W : World} {base : Nat} {e : TypeId} {size n : Nat} {v : Value} {xs : List Value} (h : W.ownsRow base e size v n xs) {b : Nat} (hb : some b = v.ownBlock) : ∃ cs, W.heap[b]? = some (.cells cs e (0, 0)) := by
  rcases h.2 with ⟨h2, _⟩ | ⟨g, cp, cur, h2, hg, hh, r⟩
  · rw [h2] at hb; cases hb
  · rw [h2] at hb
    have e' : b = g := by simpa [Value.ownBlock] using hb
    subst e'; exact ⟨_, hh⟩
/-- How growth's world lies between two rounds. -/
def GrowI (l : List R) (k : Nat) (w : World) (i : Nat) (W : World) : Prop :=
  ∃ v, Blk W w.heap.size 31 #[v] ∧ W.ownsRow (w.heap.size + 9) 3 1 v i (ints (growL l k i)) ∧ Below w.heap.size w W
theorem GrowI.own2 {l : List R} {k i : Nat} {w X Y : World} (h : GrowI l k w i X) (ho : Own2 (w.heap.size + 5) X Y) : GrowI l k w i Y := by
  obtain ⟨v, h1, h2, h3⟩ := h
  obtain ⟨S, ht, hS⟩ := ho
  have noM : ∀ j cs t, X.heap[j]? = some (.cells cs t (0, 0)) → j ∉ S := fun j cs t hj hm => by
    obtain ⟨-, es, clock, hb⟩ := hS _ hm
    rw [hj] at hb; cases hb
  refine ⟨v, ht.blk h1 (noM _ _ _ h1), ownsRow_same h2 (fun b _ hb he => ?_), h3.trans (ht.below (fun b hb => by have := (hS b hb).1; omega) h3.size)⟩
  obtain ⟨cs, hc⟩ := ownsRow_cells h2 he
  exact ht.block b hb (noM _ _ _ hc)
theorem GrowI.put {l : List R} {k i : Nat} {w X : World} (h : GrowI l k w i X) {p : Nat} (o : Obj) (hp : w.heap.size < p) (hp2 : p < w.heap.size + 9) : GrowI l k w i (X.putObj p o) := by
  obtain ⟨v, h1, h2, h3⟩ := h
  refine ⟨v, (World.putObj_heap_other (by omega)).trans h1, ownsRow_same h2 (fun b hb _ _ => World.putObj_heap_other (by omega)), ?_⟩
  have hg := grownBy_putObj' X p o
  exact h3.grown hg h3.size (fun r e => by injection e with e; omega)
theorem GrowI.below {l : List R} {k i : Nat} {w X Y : World} (h : GrowI l k w i X) (hb : Below X.heap.size X Y) : GrowI l k w i Y := by
  obtain ⟨v, h1, h2, h3⟩ := h
  exact ⟨v, h1.below hb h1.lt, ownsRow_below h2 hb, h3.trans (hb.mono h3.size)⟩

set_option maxRecDepth 100000 in
set_option maxHeartbeats 2000000 in
theorem growth_any (k : Nat) (l : List R) (b0 gL mA c0 most : Nat) (Q : List E) (w : World) (hl : ∀ r ∈ l, r.1.size ≤ 8) (h12 : l.length ≤ 12) (hk : k ≤ 4) (hQ : Ends l k Q) (hlet : Let w) (hL : LangS w b0 gL mA k c0 Q (aftQ l k Q)) (hmost : most ≤ 1000) :
    Calls Tryd.prog 35 #[.pointer (some ⟨gL, 0, none⟩), .int .i64 most] w fun y w' => ∃ v, y = .returned v ∧ Own w.heap.size w' v 1 (most + 1) (ints (growL l k (most + 1))) ∧ Below w.heap.size w w' := by
  obtain ⟨i0, hi, hz0, hz1, hz2⟩ := info_parts infoInt
  refine (callsIn_wide (n := 6)).1 ?_
  refine callsIn_of_wp_marks Tryd.func35 rfl trivial ?_ rfl
  simp only [Tryd.ntmps35, List.size_toArray, List.length_cons, List.length_nil, Nat.reduceAdd, Nat.reduceSub, Array.replicate_succ, Array.replicate_zero, List.push_toArray, List.append_toArray, List.nil_append, List.cons_append]
  gi_wp2_with fail
  refine ⟨trivial, (callsIn_wide.2 (tallies_any gL most _)).mono ?_⟩
  rintro e w1 ⟨rfl, hw1⟩
  have hsz : w1.heap.size = w.heap.size + 3 := by rw [hw1]; simp
  have R0 : Blk w1 w.heap.size 31 #[.slice none 0 0] := by rw [hw1]; exact ((Blk.new1 w _ _).alloc _).alloc _
  have R1 : Blk w1 (w.heap.size + 1) 58 #[.pointer (some ⟨gL, 0, none⟩)] := by rw [hw1]; have := (Blk.new1 (w.alloc (.cells #[.slice none 0 0] 31)) #[.pointer (some ⟨gL, 0, none⟩)] 58).alloc (.cells #[.int .i64 most] 3); rwa [World.size_alloc] at this
  have R2 : Blk w1 (w.heap.size + 1 + 1) 3 #[.int .i64 most] := by rw [hw1]; have := Blk.new2 (w.alloc (.cells #[.slice none 0 0] 31)) (.cells #[.pointer (some ⟨gL, 0, none⟩)] 58) #[.int .i64 most] 3; rwa [World.size_alloc] at this
  have b1 : Below w.heap.size w w1 := by rw [hw1]; exact bel3 w _ _ _
  clear hw1
  gi_wp2_with fail
  have hS := tallies1_tells 5 (by omega) k l b0 gL mA c0 (w.heap.size + 1) (w.heap.size + 1 + 1) most Q w w1 hl h12 hk hQ hlet hL b1 R1 R2 hmost
  have HQ := Lib.hid hQ
  refine range_tells rfl (by omega) (gf := 89) (lb := #[.pointer (some ⟨w.heap.size + 1, 0, none⟩), .pointer (some ⟨w.heap.size + 1 + 1, 0, none⟩)]) rfl trivial (enters_of Tryd.func89 (by kernel_rfl) rfl)
    hS (Below.refl _ _) (fun B i args X he => by obtain ⟨g, m, g', m', e, -⟩ := he; rw [e]; rfl) (fun B i args X Y he hk => talE_keep he hk) (by unfold talD; omega)
    (GrowI l k w) (fun _ _ _ => False) (fun i X Y h ho => h.own2 (by rwa [hsz] at ho)) (fun i X p o h hp1 hp2 => h.put o (by omega) (by omega)) (fun _ _ _ _ _ h => h.elim)
    (fun o => ⟨.slice none 0 0, (R0.alloc _).alloc _, World.ownsRow_nil _ _ _ _, b1.trans ((bel2 w1 _ _).mono b1.size)⟩)
    (fun args => { tmps := #[.pointer (some ⟨gL, 0, none⟩), .int .i64 most, undef, undef, .slice none 0 0, .pointer (some ⟨w.heap.size, 0, none⟩), undef, args.getD 1 undef, undef, undef, .pointer (some ⟨gL, 0, none⟩), .int .i64 most, .func (.func 89) #[] #[.pointer (some ⟨w.heap.size + 1, 0, none⟩), .pointer (some ⟨w.heap.size + 1 + 1, 0, none⟩)], args.getD 0 undef, args.getD 1 undef, undef, undef, undef, undef, undef, undef, undef, undef, undef, undef, undef], defers := [] })
    ?assign ?body ?done ?stop
  case assign =>
    rintro lp args W K hsa hK
    obtain ⟨x0, x1, rfl⟩ := Go.Joins.array2 hsa
    gi_wp2_with fail
    simpa using hK
  case body =>
    rintro lp t args W ⟨v, hbx, hr, hw⟩ ⟨g, m, g', m', rfl, h2w, hT, hB4⟩ hlt hWs
    have Hbx := Lib.hid hbx
    have Hr := Lib.hid hr
    have hok : okE (0, 0) := ⟨by show 0 < 12; omega, by show 0 < 9; omega⟩
    have hws := hw.size
    have hW9 : w.heap.size + 9 ≤ W.heap.size := by omega
    have HD : Hid (∀ b, talD w.heap.size (w.heap.size + 1) (w.heap.size + 1 + 1) (w.heap.size + 5) b → b < w.heap.size + 9 ∧ b ≠ w.heap.size) := fun b hb => by unfold talD at hb; omega
    clear hbx hr
    gi_wp2_with fail
    refine ⟨trivial, ((callsIn_wide.2 (number_any g m 1000 (talF l k Q t) (0, 0) W hT hok)).inRound lp).mono ?_⟩
    rintro y w3 ⟨rfl, hb3⟩
    rw [talF_zero HQ.out t]
    have Hb3 := Lib.hid hb3
    have Hbx3 := Lib.hid (Hbx.out.below hb3 Hbx.out.lt)
    have Hr3 := Lib.hid (ownsRow_below Hr.out hb3)
    have Hst := Lib.hid (growL_step l k t)
    have hs3 := hb3.size
    have y0 : w3.cell? ⟨w.heap.size, 0, none⟩ = some v := Hbx3.out.cell 0
    generalize wr (countN l k t) = cc at *
    clear hb3 hT
    gi_wp2_with (gi_at_builtin; refine wpListIn_append_own _ rfl _ _ 31 rfl (w.heap.size + 9) 3 i0 (.int .i64 0) 1 8 Tryd.underlying31 hi hz0 hz1 hz2 rfl (by decide) _ _ _ rfl (Hr3.out.alloc _) ⟨w3.heap.size, 0, none⟩ 1 1 [.int .i64 cc] rfl rfl ?c1 ?c2 ?c3 ?c4 ?c5 ?_)
    case c1 =>
      intro j u hj
      match j, hj with
      | 0, hj => simp at hj; subst hj; exact (Blk.new1 w3 _ _).cell 0
    case c2 => intro u hu; simp at hu; subst hu; rfl
    case c3 => unfold maxLen; omega
    case c4 => omega
    case c5 => simp; omega
    intro v' w4 hown hgrow _
    obtain ⟨g9, o9, c9, rfl⟩ := (Own.of_row hown).formR (by omega)
    have hbl : w.heap.size < w3.heap.size := Hbx3.out.lt
    have hne : ∀ b, b < w.heap.size + 9 → some b ≠ v.ownBlock := fun b hb e => by have := ownsRow_ge Hr3.out e; omega
    have h4 : ∀ b, b < w3.heap.size → some b ≠ v.ownBlock → w4.heap[b]? = w3.heap[b]? := fun b h1 h2 => (hgrow.block b (by simp; omega) h2).trans (Below.heap_alloc _ _ _ h1)
    have Hbx4 : Hid (Blk w4 w.heap.size 31 #[v]) := (h4 _ hbl (hne _ (by omega))).trans Hbx3.out
    have z0 : w4.cell? ⟨w.heap.size, 0, none⟩ = some v := Hbx4.out.cell 0
    have zf : w4.frozen? ⟨w.heap.size, 0, none⟩ = false := Hbx4.out.frozen 0
    have H4 := Lib.hid h4
    have Hne := Lib.hid hne
    have Hown := Lib.hid hown
    have hgs : w3.heap.size + 1 ≤ w4.heap.size := by have := hgrow.size; simpa using this
    have Hbw : Hid (Below w.heap.size w w4) := ((hw.trans (Hb3.out.mono hws)).alloc (by omega) _).grown hgrow (by simp; omega) (fun b e => by have := ownsRow_ge Hr3.out e.symm; omega)
    clear hown hgrow h4 hne y0
    gi_wp2_with fail
    have hfar : ∀ b, b ≠ w.heap.size → (w4.setCell ⟨w.heap.size, 0, none⟩ (.slice (some ⟨g9, o9, none⟩) (t + 1) c9)).heap[b]? = w4.heap[b]? := fun b hb => Below.heap_setCell _ _ _ b hb
    have hall : ∀ b, b < w.heap.size + 9 → b ≠ w.heap.size → (w4.setCell ⟨w.heap.size, 0, none⟩ (.slice (some ⟨g9, o9, none⟩) (t + 1) c9)).heap[b]? = W.heap[b]? := fun b h1 h2 =>
      (hfar b h2).trans ((H4.out b (by omega) (Hne.out b h1)).trans (Hb3.out.block b (by omega)))
    refine ⟨hall _ (by omega) (by omega), hall _ (by omega) (by omega), ⟨by simp [World.size_setCell]; omega, fun b hb => ?_⟩, _, Hbx4.out.set_ 0 _, ?_, Hbw.out.setCell (Nat.le_refl _) _⟩
    · have := HD.out b (by rw [hsz] at hb; exact hb)
      exact hall b this.1 this.2
    · rw [Hst.out, show ints (growL l k t ++ [cc]) = ints (growL l k t) ++ [Value.int .i64 cc] by simp [ints]]
      exact ownsRow_same Hown.out (fun b hb _ _ => hfar b (by omega))
  case done =>
    rintro W ⟨v, h2, h3, h4⟩ hK
    have y0 := h2.cell 0
    have hws := h4.size
    have hvf : ∃ A c, v = .slice A (most + 1) c := (Own.of_row h3).form
    obtain ⟨A9, c9, rfl⟩ := hvf
    have hrw : w1.heap.size < W.heap.size := (Array.getElem?_eq_some_iff.1 hK).1
    gi_wp2_with fail
    refine ⟨by simp, .inl ⟨_, _, rfl, run_takeDeferred hK, ?_⟩⟩
    have hW' : Below w.heap.size w (W.putObj w1.heap.size (.deferred none)) := h4.trans (belowK_b (w := w) (Nat.le_refl _) _ w1.heap.size _ _ (by omega) hK rfl rfl)
    refine ⟨.slice A9 (most + 1) c9, ?_, _, rfl, ?_, hW'⟩
    · simp [results, Tryd.f35, go_sem]
    · refine (Own.of_row (ownsRow_same h3 (fun b hb _ _ => ?_))).mono (by omega)
      exact World.putObj_heap_other (by omega)
  case stop => rintro c i W _ h; exact h.elim
end Go.Proofs.YtjecadpofkblnaaDoor
