/- The greatest length of a reduced word: language.longest, LongestReduced. -/
import Derived.Test.YtjecadpofkblnaaDoorLongPlain
namespace Go.Proofs.YtjecadpofkblnaaDoor
open Go.RowKit Go.Maps Go.Shelf
attribute [local go_sem] Oper.semAt_some

theorem talF_alive {l : List R} {k : Nat} {Q : List E} (h : Ends l k Q) (n : Nat) : (talF l k Q n (0, 0)).isSome = decide (0 < countN l k n) := talF_some h.zero

/-- How longest's world lies between two rounds. -/
def LngI (l : List R) (k : Nat) (w : World) (i : Nat) (W : World) : Prop := Blk W w.heap.size 3 #[.int .i64 0] ∧ Below w.heap.size w W ∧ ∀ j, j < i → 0 < countN l k j
/-- .. behind the last one. -/
def LngX (l : List R) (k : Nat) (w : World) (c : Code) (i : Nat) (W : World) : Prop := c = .ret ∧ Blk W w.heap.size 3 #[.int .i64 ((i : Int) - 1)] ∧ Below w.heap.size w W ∧ countN l k i = 0 ∧ ∀ j, j < i → 0 < countN l k j

theorem own2_blk {B g : Nat} {t : TypeId} {cs : Array Value} {X Y : World} (h : Blk X g t cs) (ho : Own2 B X Y) : Blk Y g t cs := by
  obtain ⟨S, ht, hS⟩ := ho
  refine ht.blk h (fun hm => ?_)
  obtain ⟨-, es, clock, hb⟩ := hS _ hm
  unfold Blk at h
  rw [h] at hb; cases hb
theorem own2_bel {B B0 : Nat} {X Y w : World} (h : Below B0 w X) (hB : B0 ≤ B) (hB2 : B0 ≤ w.heap.size) (ho : Own2 B X Y) : Below B0 w Y := by
  obtain ⟨S, ht, hS⟩ := ho
  exact h.trans (ht.below (fun b hb => by have := (hS b hb).1; omega) (by have := h.size; omega))
theorem put_bel {w X : World} (h : Below w.heap.size w X) {p : Nat} (o : Obj) (hp : w.heap.size ≤ p) : Below w.heap.size w (X.putObj p o) :=
  h.grown (grownBy_putObj' X p o) h.size (fun r e => by injection e with e; omega)
set_option maxRecDepth 100000 in
set_option maxHeartbeats 2000000 in
theorem longest_any (k : Nat) (l : List R) (b0 gL mA c0 : Nat) (Q : List E) (w : World) (hl : ∀ r ∈ l, r.1.size ≤ 8) (h12 : l.length ≤ 12) (hk : k ≤ 4) (hQ : Ends l k Q) (hlet : Let w) (hL : LangS w b0 gL mA k c0 Q (aftQ l k Q)) :
    Calls Tryd.prog 41 #[.pointer (some ⟨gL, 0, none⟩)] w fun y w' => ∃ d : Int, y = .returned (.int .i64 d) ∧ IsLng (lefts l) k [] d ∧ Below w.heap.size w w' := by
  obtain ⟨⟨A2, cap, hblk, -⟩, -, -, -⟩ := id hL
  have hQl := hQ.len hl h12
  have gll := hblk.lt
  have q1 : (w.alloc (.cells #[.int .i64 0] 3)).cell? ⟨gL, 1, none⟩ = some (.slice A2 Q.length cap) := (hblk.alloc _).cell 1
  refine (callsIn_wide (n := 6)).1 ?_
  refine callsIn_of_wp_marks Tryd.func41 rfl trivial ?_ rfl
  simp only [Tryd.ntmps41, List.size_toArray, List.length_cons, List.length_nil, Nat.reduceAdd, Nat.reduceSub, Array.replicate_succ, Array.replicate_zero, List.push_toArray, List.append_toArray, List.nil_append, List.cons_append]
  gi_wp2_with fail
  refine ⟨trivial, (callsIn_wide.2 (tallies_any gL Q.length _)).mono ?_⟩
  rintro e w1 ⟨rfl, hw1⟩
  have hsz : w1.heap.size = w.heap.size + 3 := by rw [hw1]; simp
  have R0 : Blk w1 w.heap.size 3 #[.int .i64 0] := by rw [hw1]; exact ((Blk.new1 w _ _).alloc _).alloc _
  have R1 : Blk w1 (w.heap.size + 1) 58 #[.pointer (some ⟨gL, 0, none⟩)] := by rw [hw1]; have := (Blk.new1 (w.alloc (.cells #[.int .i64 0] 3)) #[.pointer (some ⟨gL, 0, none⟩)] 58).alloc (.cells #[.int .i64 Q.length] 3); rwa [World.size_alloc] at this
  have R2 : Blk w1 (w.heap.size + 1 + 1) 3 #[.int .i64 Q.length] := by rw [hw1]; have := Blk.new2 (w.alloc (.cells #[.int .i64 0] 3)) (.cells #[.pointer (some ⟨gL, 0, none⟩)] 58) #[.int .i64 Q.length] 3; rwa [World.size_alloc] at this
  have b1 : Below w.heap.size w w1 := by rw [hw1]; exact bel3 w _ _ _
  have hS := tallies1_tells 5 (by omega) k l b0 gL mA c0 (w.heap.size + 1) (w.heap.size + 1 + 1) Q.length Q w w1 hl h12 hk hQ hlet hL b1 R1 R2 (by omega)
  have HQ := Lib.hid hQ
  clear hw1 q1 hblk
  gi_wp2_with fail
  refine range_tells rfl (by omega) (gf := 89) (lb := #[.pointer (some ⟨w.heap.size + 1, 0, none⟩), .pointer (some ⟨w.heap.size + 1 + 1, 0, none⟩)]) rfl trivial (enters_of Tryd.func89 (by kernel_rfl) rfl)
    hS (Below.refl _ _) (fun B i args X he => by obtain ⟨g, m, g', m', e, -⟩ := he; rw [e]; rfl) (fun B i args X Y he hk => talE_keep he hk) (by unfold talD; omega)
    (LngI l k w) (LngX l k w) (fun i X Y h ho => ⟨own2_blk h.1 ho, own2_bel h.2.1 (by omega) (Nat.le_refl _) ho, h.2.2⟩)
    (fun i X p o h hp1 hp2 => ⟨(World.putObj_heap_other (by omega)).trans h.1, put_bel h.2.1 o (by omega), h.2.2⟩) (fun c i X p o h hp1 hp2 => ⟨h.1, (World.putObj_heap_other (by omega)).trans h.2.1, put_bel h.2.2.1 o (by omega), h.2.2.2⟩)
    (fun o => ⟨(R0.alloc _).alloc _, b1.trans ((bel2 w1 _ _).mono b1.size), fun j hj => by omega⟩)
    (fun args => { tmps := #[.pointer (some ⟨gL, 0, none⟩), undef, .pointer (some ⟨w.heap.size, 0, none⟩), args.getD 0 undef, args.getD 1 undef, undef, undef, .pointer (some ⟨gL, 0, none⟩), .pointer (some ⟨gL, 0, none⟩), .pointer (some ⟨gL, 0, none⟩), .pointer (some ⟨gL, 1, none⟩), .slice A2 Q.length cap, .int .i64 Q.length, .func (.func 89) #[] #[.pointer (some ⟨w.heap.size + 1, 0, none⟩), .pointer (some ⟨w.heap.size + 1 + 1, 0, none⟩)], args.getD 0 undef, args.getD 1 undef, undef, undef, undef, undef, undef, undef, undef, undef, undef, undef], defers := [] })
    ?assign ?body ?done ?stop
  case assign =>
    rintro lp args W K hsa hK
    obtain ⟨x0, x1, rfl⟩ := Go.Joins.array2 hsa
    gi_wp2_with fail
    simpa using hK
  case body =>
    rintro lp t args W ⟨hb, hw, hpos⟩ ⟨g, m, g', m', rfl, h2w, hT, hB4⟩ hlt hWs
    have Hbx := Lib.hid hb
    have hok : okE (0, 0) := ⟨by show 0 < 12; omega, by show 0 < 9; omega⟩
    have hws := hw.size
    have hbl : w.heap.size < W.heap.size := hb.lt
    have HD : Hid (∀ b, talD w.heap.size (w.heap.size + 1) (w.heap.size + 1 + 1) (w.heap.size + 5) b → b < w.heap.size + 9 ∧ b ≠ w.heap.size) := fun b hb => by unfold talD at hb; omega
    have Hpos := Lib.hid hpos
    have hW9 : w.heap.size + 9 ≤ W.heap.size := by omega
    clear hb hpos
    gi_wp2_with fail
    refine ⟨trivial, ((callsIn_wide.2 (number_any g m 1000 (talF l k Q t) (0, 0) W hT hok)).inRound lp).mono ?_⟩
    rintro y w3 ⟨rfl, hb3⟩
    rw [talF_alive HQ.out t]
    have Hb3 := Lib.hid hb3
    have Hbx3 := Lib.hid (Hbx.out.below hb3 hbl)
    have hs3 := hb3.size
    have y0 : w3.cell? ⟨w.heap.size, 0, none⟩ = some (.int .i64 0) := Hbx3.out.cell 0
    have yf : w3.frozen? ⟨w.heap.size, 0, none⟩ = false := Hbx3.out.frozen 0
    clear hb3 hT
    by_cases hc : 0 < countN l k t
    · rw [decide_eq_true hc]
      have Hc := Lib.hid hc
      clear hc
      gi_wp2_with fail
      refine ⟨Hb3.out.block _ (by omega), Hb3.out.block _ (by omega), ⟨hs3, fun b hb => Hb3.out.block b (by have := HD.out b (by rw [hsz] at hb; exact hb); omega)⟩, Hbx3.out, hw.trans (Hb3.out.mono hws), fun j hj => ?_⟩
      by_cases e : j = t
      · subst e; exact Hc.out
      · exact Hpos.out j (by omega)
    · have Hc : Hid (countN l k t = 0) := Nat.eq_zero_of_not_pos hc
      have ht0 : 1 ≤ t := by
        rcases Nat.eq_zero_or_pos t with h0 | h0
        · subst h0; exact absurd (Nat.one_pos : 0 < countN l k 0) hc
        · exact h0
      rw [decide_eq_false hc]
      clear hc
      gi_wp2_with fail
      have hfar : ∀ b, b ≠ w.heap.size → (w3.setCell ⟨w.heap.size, 0, none⟩ (.int .i64 ((t : Int) - 1))).heap[b]? = w3.heap[b]? := fun b hb => Below.heap_setCell _ _ _ b hb
      refine ⟨(hfar _ (by omega)).trans (Hb3.out.block _ (by omega)), (hfar _ (by omega)).trans (Hb3.out.block _ (by omega)), rfl, Hbx3.out.set_ 0 _, (hw.trans (Hb3.out.mono hws)).setCell (Nat.le_refl _) _, Hc.out, Hpos.out⟩
  case done =>
    rintro W ⟨h1, h2, h3⟩ hK
    have y0 : W.cell? ⟨w.heap.size, 0, none⟩ = some (.int .i64 0) := h1.cell 0
    have yf : W.frozen? ⟨w.heap.size, 0, none⟩ = false := h1.frozen 0
    have hrw : w1.heap.size < W.heap.size := (Array.getElem?_eq_some_iff.1 hK).1
    have hws := h2.size
    gi_wp2_with fail
    have hK' : (W.setCell ⟨w.heap.size, 0, none⟩ (.int .i64 (-1))).heap[w1.heap.size]? = some (.deferred (some [])) := (Below.heap_setCell W ⟨w.heap.size, 0, none⟩ _ w1.heap.size (by show w1.heap.size ≠ w.heap.size; omega)).trans hK
    refine ⟨by simp, .inl ⟨_, _, rfl, run_takeDeferred hK', ?_⟩⟩
    have hb' : Blk ((W.setCell ⟨w.heap.size, 0, none⟩ (.int .i64 (-1))).putObj w1.heap.size (.deferred none)) w.heap.size 3 #[.int .i64 (-1)] := (World.putObj_heap_other (by omega)).trans (h1.set_ 0 (.int .i64 (-1)))
    have c0 := hb'.cell 0
    refine ⟨.int .i64 (-1), ?_, -1, rfl, .inr ⟨rfl, fun n => ?_⟩, put_bel (h2.setCell (p := ⟨w.heap.size, 0, none⟩) (Nat.le_refl _) _) _ (by omega)⟩
    · simp [results, Tryd.f41, go_sem, c0]
    · exact all_pos HQ.out (h3 Q.length (by omega)) n
  case stop =>
    rintro c i W hi ⟨rfl, h1, h2, h3, h4⟩ hK
    have hrw : w1.heap.size < W.heap.size := (Array.getElem?_eq_some_iff.1 hK).1
    have hws := h2.size
    have hi0 : 1 ≤ i := by
      rcases Nat.eq_zero_or_pos i with h0 | h0
      · subst h0; exact absurd h3 (by show ¬ (1 : Nat) = 0; omega)
      · exact h0
    gi_wp2_with fail
    refine ⟨by simp, .inl ⟨_, _, rfl, run_takeDeferred hK, ?_⟩⟩
    have hb' : Blk (W.putObj w1.heap.size (.deferred none)) w.heap.size 3 #[.int .i64 ((i : Int) - 1)] := (World.putObj_heap_other (by omega)).trans h1
    have c0 := hb'.cell 0
    refine ⟨.int .i64 ((i : Int) - 1), ?_, (i : Int) - 1, rfl, .inl ⟨i - 1, by omega, h4 (i - 1) (by omega), ?_⟩, put_bel h2 _ (by omega)⟩
    · simp [results, Tryd.f41, go_sem, c0]
    · rw [show i - 1 + 1 = i by omega]; exact h3
end Go.Proofs.YtjecadpofkblnaaDoor
