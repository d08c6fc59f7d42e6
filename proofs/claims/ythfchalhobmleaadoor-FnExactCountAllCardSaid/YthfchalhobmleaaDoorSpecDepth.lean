/- The model's LongestReduced: l07Depth. -/
import Derived.Test.YthfchalhobmleaaDoorSpecNext
import Derived.Test.YthfchalhobmleaaDoorDepthPlain
import Derived.Deep.RegionHeld3
import Derived.Deep.RegionLaw
namespace Go.Proofs.YthfchalhobmleaaDoor
open Go.RowKit

/-- An append of a whole slice to an empty one of one's own. -/
theorem run_copyS {Bw n cw g0 base : Nat} {Aw : Option Addr} {Ws : List ByteArray} {w : World} (h : Own Bw w (.slice Aw n cw) 1 n (strs Ws)) (hn : n ≤ 1048576) (t : TypeId) (hE : Blk w g0 9 #[]) (hb : base ≤ g0) :
    ∃ g cap w', (Builtin.append_ #[28, 28] t #[.slice (some ⟨g0, 0, none⟩) 0 0, .slice Aw n cw]).run Tryd.prog w = .ok (.slice (some ⟨g, 0, none⟩) n cap) w' ∧ w'.ownsRow base 9 1 (.slice (some ⟨g, 0, none⟩) n cap) n (strs Ws) ∧ w.grownBy w' (some g0) ∧ (g = g0 ∨ g = w.heap.size) := by
  obtain ⟨i0, hi, hz0, hz1, hz2⟩ := info_parts infoStr
  have hown : w.ownsRow base 9 1 (.slice (some ⟨g0, 0, none⟩) 0 0) 0 [] := ⟨rfl, Or.inr ⟨g0, 0, #[], rfl, hb, hE, Nat.le_refl _, by unfold maxLen; omega, rfl, rfl⟩⟩
  have hlen : Ws.length = n := by have := h.1; simp [strs] at this; omega
  by_cases h0 : n = 0
  · subst h0
    obtain rfl : Ws = [] := List.eq_nil_of_length_eq_zero hlen
    refine ⟨g0, 0, w, ?_, hown, ⟨rfl, rfl, rfl, Nat.le_refl _, fun _ _ _ => rfl⟩, .inl rfl⟩
    have h1 : (Builtin.firstCells 1 0 (.slice Aw 0 cw)).run Tryd.prog w = .ok #[] w := by
      cases Aw <;> simp [Builtin.firstCells, loadCells, loadCellsFrom, Sem.run_pure]
    simp [Builtin.append_, run_underlying Tryd.underlying28, sizeOf, typeInfo, hi, Builtin.lenOf, hz1, h1, storeCells]
  · obtain ⟨g, off, c0, hv⟩ := h.formR (by omega)
    obtain ⟨rfl, rfl⟩ : Aw = some ⟨g, off, none⟩ ∧ cw = c0 := by injection hv with a _ b; exact ⟨a, b⟩
    have hcell : ∀ j u, (strs Ws)[j]? = some u → w.cell? ((⟨g, off, none⟩ : Addr).add j) = some u := by
      intro j u hj
      rw [Addr.add_lit]
      have hjl := (List.getElem?_eq_some_iff.1 hj).1
      exact ((Own.cellAt h (by omega) hjl).1).trans hj
    have hg0 := hE.lt
    obtain ⟨v', w', hr, h2, h3, _, h5⟩ := run_append_own_at (P := Tryd.prog) w base 28 t 9 i0 (.string ⟨#[]⟩) 1 16 Tryd.underlying28 hi hz0 hz1 hz2 rfl (by decide) (.slice (some ⟨g0, 0, none⟩) 0 0) 0 [] hown ⟨g, off, none⟩ n cw (strs Ws) (by simp [strs, hlen]) hcell
      (fun u hu => by
        simp only [strs, List.mem_map] at hu
        obtain ⟨r, -, rfl⟩ := hu
        rfl) (by unfold maxLen; omega) (by omega) (by omega)
    rw [Nat.zero_add, List.nil_append] at h2
    obtain ⟨g1, cap, rfl, _, hlt⟩ := h2.form (by omega)
    refine ⟨g1, cap, w', hr, h2, h3, ?_⟩
    rcases h5 with h5 | h5
    · exact .inl (by simpa [Value.ownBlock] using h5)
    · exact .inr (by simpa [Value.ownBlock] using h5)
theorem wp_copyS {w : World} {o : Oper} {a : Act} {K : Act → World → Prop} {Q : Exit → Act → World → Prop} (s x : Operand)
    (ho : o.op = .call { callee := .builtin .append, args := #[s, x], argTypes := #[28, 28] }) {Bw n cw g0 base : Nat} {Aw : Option Addr} {Ws : List ByteArray}
    (h : Own Bw w (.slice Aw n cw) 1 n (strs Ws)) (hn : n ≤ 1048576) (hE : Blk w g0 9 #[]) (hb : base ≤ g0) (hs : a.eval s = .slice (some ⟨g0, 0, none⟩) 0 0) (hx : a.eval x = .slice Aw n cw)
    (hK : ∀ g cap w', w'.ownsRow base 9 1 (.slice (some ⟨g, 0, none⟩) n cap) n (strs Ws) → w.grownBy w' (some g0) → (g = g0 ∨ g = w.heap.size) → K (a.put o.dst (.slice (some ⟨g, 0, none⟩) n cap)) w') : o.wp Tryd.prog a w K Q := by
  obtain ⟨g, cap, w', hr, h2, h3, h4⟩ := run_copyS h hn o.type hE hb
  unfold Oper.wp execOp
  simp only [ho, resolve, invoke, builtin, Sem.run_bind, Sem.run_pure, Result.andThen_ok, List.map_toArray, List.map_cons, List.map_nil, hs, hx, hr]
  exact hK g cap w' h2 h3 h4
theorem bel_up {B : Nat} {W X : World} (h : Below W.heap.size W X) (o : Obj) (hB : B = W.heap.size) : Below B W (X.alloc o) := by subst hB; exact h.alloc h.size o

theorem news_one {W : World} {g : Nat} {v : Value} (h : W.cell? ⟨g, 0, none⟩ = some v) : ∀ j x, [v][j]? = some x → W.cell? ((⟨g, 0, none⟩ : Addr).add j) = some x := fun j x hj => by
  match j, hj with
  | 0, hj => simp at hj; subst hj; exact h
theorem one_str (u : ByteArray) : ∀ x ∈ [Value.string u], x.oneCell' = true := fun x hx => by simp at hx; subst hx; rfl
theorem strs_push (Ws : List ByteArray) (u : ByteArray) : strs Ws ++ [Value.string u] = strs (Ws ++ [u]) := by simp [strs]
theorem grown_cell {W X : World} {g g0 : Nat} {v : Value} (hg : W.grownBy X (some g0)) (hne : g ≠ g0) (hlt : g < W.heap.size) (h : W.cell? ⟨g, 0, none⟩ = some v) : X.cell? ⟨g, 0, none⟩ = some v :=
  (World.cell?_of_block (w := W) (a := ⟨g, 0, none⟩) (hg.block g hlt (fun e => hne (by injection e)))).trans h

theorem max_wrap (dn most : Nat) (h : dn ≤ 400000) : (if (most : Int) < wrap64 ((dn : Int) + 1) then wrap64 ((dn : Int) + 1) else (most : Int)) = ((max most (dn + 1) : Nat) : Int) := by
  have e : wrap64 ((dn : Int) + 1) = (dn : Int) + 1 := by
    unfold wrap64
    omega
  rw [e]
  split
  · rw [Nat.max_eq_right (by omega)]; rfl
  · rw [Nat.max_eq_left (by omega)]

set_option maxRecDepth 100000 in
set_option maxHeartbeats 4000000 in
theorem depth_any (k : Nat) (A : Option Addr) (n c B : Nat) (l : List R) (hsm : smallR l) (hl : ∀ r ∈ l, r.1.size ≤ 8) (hk : k ≤ 4) : ∀ (f : Nat) (Aw : Option Addr) (cw Bw : Nat) (Ws : List ByteArray) (u : ByteArray) (w : World), Own B w (.slice A n c) 2 n (rulesC l) →
    Own Bw w (.slice Aw Ws.length cw) 1 Ws.length (strs Ws) → WayOk l k Ws u → Ws.length + f = 400000 →
    Calls Tryd.prog 64 #[.agg #[.int .i64 k, .slice A n c], .slice Aw Ws.length cw, .string u] w fun e w' => ∃ d : Int, e = .returned (.int .i64 d) ∧ Hid (LngW l k u d) ∧ d ≤ f ∧ Below w.heap.size w w' := by
  intro f
  induction f with
  | zero => intro Aw cw Bw Ws u w _ _ hok hf; have := hok.len; omega
  | succ f ih =>
  intro Aw cw Bw Ws u w h hW hok hf
  obtain ⟨i0, hi, hz0, hz1, hz2⟩ := info_parts infoStr
  have hu : u.size ≤ 8 := hok.here.1
  have hWl : Ws.length ≤ 400000 := by omega
  have HO := Lib.hid h
  have HW := Lib.hid hW
  have Hok := Lib.hid hok
  have IH := Lib.hid ih
  have HF := Lib.hid hf
  have HNo0 : Hid (u ∉ Ws.take 0) := (by simp : u ∉ Ws.take 0)
  clear h hW hok ih hf
  go_enter Tryd.func64, Tryd.ntmps64
  go_wp2_with fail
  go_loopw [15] (fun i wx => ∃ q : Nat, i = .int .i64 q ∧ q ≤ Ws.length ∧ Hid (u ∉ Ws.take q) ∧ wx = w.alloc (.cells #[.int .i64 k, .slice A n c] 25)) (fun i _ => Ws.length - (intOf i).toNat)
  case atStart => exact ⟨0, rfl, Nat.zero_le _, HNo0, rfl⟩
  case round =>
    clear HNo0
    obtain ⟨q, rfl, hq, HNo, rfl⟩ := hrel
    have b1 := bel1 w (.cells #[.int .i64 k, .slice A n c] 25)
    by_cases hlt : q < Ws.length
    · obtain ⟨gw, ow, hAw, -, hgw, hcw⟩ := (HW.out.below b1).str (by omega)
      subst hAw
      obtain ⟨sv, hsv, x0, -⟩ := hcw q hlt
      have Hsv := Lib.hid hsv
      clear hcw hsv
      by_cases hsx : sv = u
      · subst hsx
        have Hback := Lib.hid (Hok.out.back (List.mem_of_getElem? Hsv.out))
        go_wp2_with fail
        go_ret
        exact ⟨-1, rfl, Hback.out, by omega, b1⟩
      · have hd : (sv.toList == u.toList) = false := toList_ne hsx
        have HNo2 := Lib.hid (notin_step Hsv.out hsx HNo.out)
        clear hsx
        go_wp2_with fail
        go_roundw
        case rel => exact ⟨q + 1, by go_num, by omega, HNo2, trivial⟩
        case measure => simp [intOf]; omega
    · have hnot : u ∉ Ws := by
        have h1 := HNo.out
        rwa [List.take_of_length_le (by omega)] at h1
      have Hnot := Lib.hid hnot
      have HB0 := Lib.hid (Blk.new1 w #[.int .i64 k, .slice A n c] 25)
      have HD0 := Lib.hid (DeepTo.start l k u)
      clear hnot HNo hq
      generalize w.alloc (.cells #[.int .i64 k, .slice A n c] 25) = w1 at *
      go_wp2_with fail
      go_loopw [9, 10] (fun v9 v10 wx => ∃ (j most : Nat), v9 = .int .i64 most ∧ v10 = .int .i64 j ∧ j ≤ k ∧ most ≤ f + 1 ∧ Hid (DeepTo l k u j most) ∧ Hid (Blk wx w.heap.size 25 #[.int .i64 k, .slice A n c]) ∧ Below w.heap.size w wx) (fun _ i _ => k - (intOf i).toNat)
      case atStart => exact ⟨0, 0, rfl, rfl, Nat.zero_le _, Nat.zero_le _, HD0, HB0, b1⟩
      case round =>
        clear HD0 HB0 b1
        obtain ⟨j, most, rfl, rfl, hj4, hmost, HD, HB, hb⟩ := hrel
        have hbs := hb.size
        obtain ⟨s0, s1, -, -, sl⟩ := HB.out.two
        by_cases hlt2 : j < k
        · have hyw : (97 + (j : Int)) % 256 = 97 + (j : Int) := by omega
          have hcv := one_byte (P := Tryd.prog) Tryd.underlying22 Tryd.underlying5 Tryd.underlying9 wr (97 + (j : Int)) (by omega) (by omega)
          have hb97 : (97 + (j : Int)).toNat = 97 + j := by omega
          rw [hb97] at hcv
          have hsz1b : (⟨#[UInt8.ofNat (97 + j)]⟩ : ByteArray).size = 1 := rfl
          have Hb := Lib.hid (show u ++ ⟨#[UInt8.ofNat (97 + j)]⟩ = ext1 u j from rfl)
          have hxs : (ext1 u j).size ≤ 9 := by rw [ext1_size]; omega
          have HB1 := Lib.hid (HB.out.alloc (.cells #[.int .u8 (97 + (j : Int))] 5))
          have b1 := hb.alloc hbs (.cells #[.int .u8 (97 + (j : Int))] 5)
          obtain ⟨t0, t1, -, -, tl⟩ := HB1.out.two
          generalize (⟨#[UInt8.ofNat (97 + j)]⟩ : ByteArray) = bb at *
          go_wp2_with fail
          clear s0 s1 sl hcv t0 t1 tl
          rw [Hb.out]
          generalize wr.alloc (.cells #[.int .u8 (97 + (j : Int))] 5) = w3 at *
          have hs3 := b1.size
          refine (specEnds_any k A n c B l (ext1 u j) w3 (HO.out.below b1) (by omega)).mono ?_
          rintro e w4 ⟨rfl, hb4⟩
          have HB4 := Lib.hid (HB1.out.below hb4 HB1.out.lt)
          have b4 := b1.trans (hb4.mono b1.size)
          clear hb4 HB1 HB
          cases hh : hitS l (ext1 u j)
          · have Hh := Lib.hid hh
            obtain ⟨t0, t1, -, -, tl⟩ := HB4.out.two
            have hs4 := b4.size
            clear hh
            go_wp2_with fail
            have HSt : Hid (∀ w', Below w4.heap.size w4 w' → w'.cell? ⟨w.heap.size, 0, none⟩ = some (.int .i64 k) ∧ w'.cell? ⟨w.heap.size, 1, none⟩ = some (.slice A n c) ∧ Below w4.heap.size w4 w') :=
              fun w' hw => ⟨(hw.cell tl).trans t0, (hw.cell tl).trans t1, hw⟩
            have c0 : Below w4.heap.size w4 w4.drew := (Below.refl _ w4).drew
            have HWx : Hid (∀ X, Below w4.heap.size w4 X → Own Bw X (.slice Aw Ws.length cw) 1 Ws.length (strs Ws)) := fun X hX => (HW.out.below b4).below hX
            have HOx : Hid (∀ X, Below w4.heap.size w4 X → Own B X (.slice A n c) 2 n (rulesC l)) := fun X hX => (HO.out.below b4).below hX
            have hok2 := Hok.out.next Hnot.out hl hlt2 hk Hh.out
            have IH2 : Hid (∀ (g3 c3 : Nat) (X : World), Below w4.heap.size w4 X → X.ownsRow w4.heap.size 9 1 (.slice (some ⟨g3, 0, none⟩) (Ws.length + 1) c3) (Ws.length + 1) (strs Ws ++ [.string u]) →
                Calls Tryd.prog 64 #[.agg #[.int .i64 k, .slice A n c], .slice (some ⟨g3, 0, none⟩) (Ws.length + 1) c3, .string (cutS l (ext1 u j))] X fun e w' => ∃ d : Int, e = .returned (.int .i64 d) ∧ Hid (LngW l k (cutS l (ext1 u j)) d) ∧ d ≤ f ∧ Below X.heap.size X w') := fun g3 c3 X hX hR => by
              have h1 := IH.out (some ⟨g3, 0, none⟩) c3 w4.heap.size (Ws ++ [u]) (cutS l (ext1 u j)) X (HOx.out X hX) (by rw [List.length_append, ← strs_push]; exact Own.of_row hR) hok2 (by rw [List.length_append]; have := HF.out; simp; omega)
              rw [List.length_append] at h1
              exact h1
            have HCut : Hid (∀ X, Below w4.heap.size w4 X → Calls Tryd.prog 87 #[.agg #[.int .i64 k, .slice A n c], .string (ext1 u j)] X fun e w' => e = .returned (.string (cutS l (ext1 u j))) ∧ Below X.heap.size X w') := fun X hX => specCut_any k A n c B l (ext1 u j) X (HOx.out X hX) hsm hl (by omega)
            have Hmore := Lib.hid (fun d : Nat => HD.out.more (d := d) Hh.out)
            have Hdeep := Lib.hid (fun (d : Int) (h1 : LngW l k (cutS l (ext1 u j)) d) (h2 : d < 0) => lng_deep hlt2 Hh.out h1 h2)
            have HB8 : Hid (∀ X, Below w4.heap.size w4 X → Blk X w.heap.size 25 #[.int .i64 k, .slice A n c]) := fun X hX => HB4.out.below hX HB4.out.lt
            clear HB4 t0 t1 tl hok2 IH HO HW Hok Hnot HD hb
            generalize cutS l (ext1 u j) = vc at *
            go_region_held3 (fun w' => w'.cell? ⟨w.heap.size, 0, none⟩ = some (.int .i64 k) ∧ w'.cell? ⟨w.heap.size, 1, none⟩ = some (.slice A n c) ∧ Below w4.heap.size w4 w')
              ((refine HSt.out _ ?_; first | assumption | exact bel_up (by assumption) _ rfl | exact bel_up (bel_up (by assumption) _ rfl) _ rfl))
              ((first
                | (go_at_call 87; refine (HCut.out _ b6).mono ?_; rintro e w7 ⟨rfl, hb7⟩; have b7 := b6.trans (hb7.mono b6.size); have hR7 := ownsRow_below hR6 hb7; clear hb7)
                | (go_at_call 64; refine (IH2.out _ _ _ b7 hR7).mono ?_; rintro e w8 ⟨d, rfl, HL8, hd8, hb8⟩; have b8 := b7.trans (hb8.mono b7.size); clear hb8)
                | (refine (id ?_); rw [if_pos (by simp [Region.wanted])]; refine wp_copyS (.tmp 40) (.tmp 41) rfl (HWx.out _ (bel_up (bel_up c0 _ rfl) _ rfl)) (by omega) ((Blk.new1 w4.drew #[] 9).alloc _) (Nat.le_refl w4.heap.size) rfl rfl ?_; intro g2 c2 w5 hR5 hG5 hat5; (have b5 : Below w4.heap.size w4 w5 := (bel_up (bel_up c0 _ rfl) _ rfl).grown hG5 (by simp; omega) (fun i e => by injection e with e; subst e; exact Nat.le_refl _)); (have hU5 : w5.cell? ⟨w4.heap.size + 1, 0, none⟩ = some (.string u) := grown_cell hG5 (by show w4.heap.size + 1 ≠ w4.drew.heap.size; simp) (by simp) ((Blk.new2 w4.drew _ _ _).cell 0)); clear hG5 hat5)
                | (refine (id ?_); rw [if_pos (by simp [Region.wanted])]; refine wp_copyS (.tmp 40) (.tmp 41) rfl (HWx.out _ (bel_up (bel_up c0 _ rfl) _ rfl)) (by omega) (Blk.new2 w4.drew _ #[] 9) (Nat.le_succ w4.heap.size) rfl rfl ?_; intro g2 c2 w5 hR5 hG5 hat5; (have b5 : Below w4.heap.size w4 w5 := (bel_up (bel_up c0 _ rfl) _ rfl).grown hG5 (by simp; omega) (fun i e => by injection e with e; subst e; exact Nat.le_succ _)); (have hU5 : w5.cell? ⟨w4.heap.size, 0, none⟩ = some (.string u) := grown_cell hG5 (by show w4.heap.size ≠ w4.drew.heap.size + 1; simp) (by simp; omega) (((Blk.new1 w4.drew _ _).alloc _).cell 0)); clear hG5 hat5)
                | (refine (id ?_); rw [if_pos (by simp [Region.wanted])]; refine wp_copyS (.tmp 40) (.tmp 41) rfl (HWx.out _ (bel_up c0 _ rfl)) (by omega) (Blk.new1 w4.drew #[] 9) (Nat.le_refl w4.heap.size) rfl rfl ?_; intro g2 c2 w5 hR5 hG5 hat5; (have b5 : Below w4.heap.size w4 w5 := (bel_up c0 _ rfl).grown hG5 (by simp) (fun i e => by injection e with e; subst e; exact Nat.le_refl _)); clear hG5 hat5)
                | (refine (id ?_); rw [if_pos (by simp [Region.wanted])]; refine wp_append_lies _ (.tmp 42) (.tmp 44) 28 rfl w4.heap.size 9 i0 (.string ⟨#[]⟩) 1 16 Tryd.underlying28 hi hz0 hz1 hz2 rfl (by omega) (.slice (some ⟨g2, 0, none⟩) Ws.length c2) Ws.length (strs Ws) rfl hR5 ⟨w4.heap.size + 1, 0, none⟩ 1 1 [.string u] rfl rfl (news_one hU5) (one_str u) (by omega) (by unfold maxLen; omega) (by omega) b5.size _ rfl ?_; intro g3 c3 w6 hR6 hG6 hat6 hlt6; (have b6 : Below w4.heap.size w4 w6 := b5.grown hG6 b5.size (fun i e => ownsRow_ge hR5 e.symm)); clear hG6 hat6 hlt6 hR5)
                | (refine (id ?_); rw [if_pos (by simp [Region.wanted])]; refine wp_append_lies _ (.tmp 42) (.tmp 44) 28 rfl w4.heap.size 9 i0 (.string ⟨#[]⟩) 1 16 Tryd.underlying28 hi hz0 hz1 hz2 rfl (by omega) (.slice (some ⟨g2, 0, none⟩) Ws.length c2) Ws.length (strs Ws) rfl hR5 ⟨w4.heap.size, 0, none⟩ 1 1 [.string u] rfl rfl (news_one hU5) (one_str u) (by omega) (by unfold maxLen; omega) (by omega) b5.size _ rfl ?_; intro g3 c3 w6 hR6 hG6 hat6 hlt6; (have b6 : Below w4.heap.size w4 w6 := b5.grown hG6 b5.size (fun i e => ownsRow_ge hR5 e.symm)); clear hG6 hat6 hlt6 hR5)
                | (refine (id ?_); rw [if_pos (by simp [Region.wanted])]; refine wp_append_lies _ (.tmp 42) (.tmp 44) 28 rfl w4.heap.size 9 i0 (.string ⟨#[]⟩) 1 16 Tryd.underlying28 hi hz0 hz1 hz2 rfl (by omega) (.slice (some ⟨g2, 0, none⟩) Ws.length c2) Ws.length (strs Ws) rfl (hR5.alloc _) ⟨w5.heap.size, 0, none⟩ 1 1 [.string u] rfl rfl (news_one ((Blk.new1 w5 _ _).cell 0)) (one_str u) (by omega) (by unfold maxLen; omega) (by omega) (bel_up b5 _ rfl).size _ rfl ?_; intro g3 c3 w6 hR6 hG6 hat6 hlt6; (have b6 : Below w4.heap.size w4 w6 := (bel_up b5 _ rfl).grown hG6 (bel_up b5 _ rfl).size (fun i e => ownsRow_ge hR5 e.symm)); clear hG6 hat6 hlt6 hR5)))
            all_goals (have b9 : Below w.heap.size w w8 := b4.trans (b8.mono hs4))
            all_goals (have HB9 := Lib.hid (HB8.out w8 b8))
            all_goals clear HSt c0 HWx HOx IH2 HCut b8
            all_goals (by_cases hneg : d < 0)
            all_goals first
              | (have HN := Lib.hid (Hdeep.out d HL8.out hneg); clear hd8; go_wp2_with fail; go_ret; exact ⟨-1, rfl, HN.out, by omega, b9⟩)
              | skip
            all_goals obtain ⟨dn, rfl⟩ : ∃ dn : Nat, d = dn := ⟨d.toNat, by omega⟩
            all_goals (have HD2 := Lib.hid (Hmore.out dn HL8.out))
            all_goals (have hmx : max most (dn + 1) ≤ f + 1 := Nat.max_le.2 ⟨hmost, by omega⟩)
            all_goals clear Hmore Hdeep
            all_goals go_wp2_with fail
            all_goals rw [max_wrap dn most (by have := HF.out; omega)]
            all_goals go_roundw
            all_goals first
              | exact ⟨j + 1, max most (dn + 1), rfl, by go_num, by omega, hmx, HD2, HB9, b9⟩
              | (simp [intOf]; omega)
          · have HD2 := Lib.hid (HD.out.skip hh)
            clear hh
            go_wp2_with fail
            go_roundw
            case rel => exact ⟨j + 1, most, rfl, by go_num, by omega, hmost, HD2, HB4, b4⟩
            case measure => simp [intOf]; omega
        · obtain rfl : j = k := by omega
          have HL := Lib.hid HD.out.done
          go_wp2_with fail
          go_ret
          exact ⟨most, rfl, HL, by omega, hb⟩
end Go.Proofs.YthfchalhobmleaaDoor
