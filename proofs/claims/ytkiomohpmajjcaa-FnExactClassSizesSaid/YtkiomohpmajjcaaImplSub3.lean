/- The program's subgroupWith, SubgroupOf. -/
import Derived.Test.YtkiomohpmajjcaaImplSub2
import Derived.Lib.SliceRun
namespace Go.Proofs.Ytkiomohpmajjcaa
open Go.RowKit

set_option maxRecDepth 100000 in
set_option maxHeartbeats 800000 in
theorem cloneInt_any (A : Option Addr) (n c B : Nat) (l : List Int) (w : World) (hn : 0 < n) (hn2 : n ≤ 2097152) (h : Own B w (.slice A n c) 1 n (ints l)) :
    Calls Try.prog 75 #[.slice A n c] w fun e w' => ∃ v, e = .returned v ∧ w'.ownsRow w.heap.size 3 1 v n (ints l) ∧ Below w.heap.size w w' := by
  obtain ⟨i0, hi, hz0, hz1, hz2⟩ := infoR_parts infoInt
  have q22 : ∀ (w : World) (a : Option Addr) (n c n' c' : Nat), (binOp .eql 22 (.slice a n c) (.slice none n' c')).run Try.prog w = .ok (.bool a.isNone) w := fun w a n c n' c' => Lib.run_eql_slice_nil w _ _ a n c n' c' Try.underlying22
  obtain ⟨g, off, c0, hv⟩ := h.formR hn
  obtain ⟨rfl, rfl⟩ : A = some ⟨g, off, none⟩ ∧ c = c0 := by injection hv with a _ b; exact ⟨a, b⟩
  have hlen := h.ilen
  have HI := Lib.hid (fun j (hj : j < n) => h.iget hj)
  clear hv h
  go_enter Try.func75, Try.ntmps75
  go_wp2_with (at_builtin; refine wpList_append_own _ rfl _ _ 22 rfl w.heap.size 3 i0 (.int .i64 0) 1 8 Try.underlying22 hi hz0 hz1 hz2 rfl (by decide) _ _ _ rfl (row_empty w 3) ⟨g, off, none⟩ n c (ints l) rfl ?qc1 ?qc2 ?qc3 ?qc4 ?qc5 ?qc6 ?_)
  case qc1 => rw [ints_length]; omega
  case qc2 =>
    intro j u hj
    have hjn : j < n := by have := (List.getElem?_eq_some_iff.1 hj).1; rw [ints_length] at this; omega
    rw [Addr.add_lit]
    refine Lib.cell?_alloc_some _ ?_
    obtain ⟨s, hs, hx⟩ := HI.out j hjn
    rw [hx]
    simp only [ints, List.getElem?_map, hs] at hj
    exact hj
  case qc3 => intro u hu; obtain ⟨x, _, rfl⟩ := List.mem_map.1 hu; rfl
  case qc4 => unfold maxLen; omega
  case qc5 => omega
  case qc6 => simp
  intro v' w1 hown hgrow hnil
  have HX := Lib.hid (show w1.ownsRow w.heap.size 3 1 v' n (ints l) by simpa using hown)
  have hb : Below w.heap.size w w1 := ((Below.refl _ w).alloc (Nat.le_refl _) _).grown hgrow (by simp) (by intro k hk; simp [Value.ownBlock] at hk; omega)
  clear hown hgrow hnil
  go_wp2_with fail
  go_ret
  exact ⟨_, rfl, HX.out, hb⟩
theorem is_triv_triv (v : Value) (w : World) : Sem.run Try.prog (Instr.typeAssert (.iface 76 v) 61 76 true) w = .ok (.tuple #[v, .bool true]) w := by kernel_rfl
theorem is_triv_cyc (v : Value) (w : World) : Sem.run Try.prog (Instr.typeAssert (.iface 76 v) 61 53 true) w = .ok (.tuple #[.slice none 0 0, .bool false]) w := by kernel_rfl
theorem is_triv_span (v : Value) (w : World) : Sem.run Try.prog (Instr.typeAssert (.iface 76 v) 61 86 true) w = .ok (.tuple #[.agg #[.slice none 0 0, .slice none 0 0], .bool false]) w := by kernel_rfl
theorem is_cyc_triv (v : Value) (w : World) : Sem.run Try.prog (Instr.typeAssert (.iface 53 v) 61 76 true) w = .ok (.tuple #[.agg #[], .bool false]) w := by kernel_rfl
theorem is_cyc_cyc (v : Value) (w : World) : Sem.run Try.prog (Instr.typeAssert (.iface 53 v) 61 53 true) w = .ok (.tuple #[v, .bool true]) w := by kernel_rfl
theorem is_cyc_span (v : Value) (w : World) : Sem.run Try.prog (Instr.typeAssert (.iface 53 v) 61 86 true) w = .ok (.tuple #[.agg #[.slice none 0 0, .slice none 0 0], .bool false]) w := by kernel_rfl
theorem is_span_triv (v : Value) (w : World) : Sem.run Try.prog (Instr.typeAssert (.iface 86 v) 61 76 true) w = .ok (.tuple #[.agg #[], .bool false]) w := by kernel_rfl
theorem is_span_cyc (v : Value) (w : World) : Sem.run Try.prog (Instr.typeAssert (.iface 86 v) 61 53 true) w = .ok (.tuple #[.slice none 0 0, .bool false]) w := by kernel_rfl
theorem is_span_span (v : Value) (w : World) : Sem.run Try.prog (Instr.typeAssert (.iface 86 v) 61 86 true) w = .ok (.tuple #[v, .bool true]) w := by kernel_rfl
theorem row_mono {w : World} {base base' : Nat} {e : TypeId} {size : Nat} {v : Value} {k : Nat} {xs : List Value} (h : w.ownsRow base e size v k xs) (hb : base' ≤ base) : w.ownsRow base' e size v k xs := by
  obtain ⟨h1, h2⟩ := h
  refine ⟨h1, ?_⟩
  rcases h2 with h2 | ⟨g, cap, cur, rfl, hg, r⟩
  · exact .inl h2
  · exact .inr ⟨g, cap, cur, rfl, by omega, r⟩
theorem SubV.mono {N : Nat} {xs : List Int} {P : List Nat} {B B' : Nat} {w : World} {v : Value} (h : SubV N xs P B w v) (hB : B' ≤ B) : SubV N xs P B' w v := by
  cases h with
  | triv h => exact .triv h
  | cyc h1 h2 h3 h4 h5 h6 => exact .cyc h1 h2 h3 h4 h5 (h6.mono hB)
  | span h1 h2 h3 h0 h4 h5 h6 => exact .span h1 h2 h3 h0 h4 (h5.mono hB) (h6.mono hB)
def GensPost (N : Nat) (xs : List Int) (P : List Nat) (B : Nat) (e : Ending) (w' : World) : Prop :=
  ∃ v Hs, e = .returned v ∧ w'.ownsRow B 3 1 v Hs.length (ints (nints Hs)) ∧ Hs.length ≤ P.length + 1 ∧ SameGen N xs Hs P ∧ ∀ g ∈ Hs, g < N
set_option maxRecDepth 100000 in
set_option maxHeartbeats 800000 in
theorem generatorsOf_any (N : Nat) (xs : List Int) (P : List Nat) (B : Nat) (v : Value) (w : World) (h : SubV N xs P B w v) (hT : TabOk N xs) (hP : P.length ≤ 1048576) :
    Calls Try.prog 66 #[v] w fun e w' => GensPost N xs P w.heap.size e w' ∧ Below w.heap.size w w' := by
  cases h with
  | triv h =>
    have f1 := is_triv_cyc
    have f2 := is_triv_span
    go_enter Try.func66, Try.ntmps66
    go_wp2_with fail
    go_ret
    exact ⟨⟨_, [], rfl, World.ownsRow_nil _ _ _ _, Nat.zero_le _, h, fun g hg => by cases hg⟩, Below.refl _ _⟩
  | cyc h1 h2 h3 h4 h5 h6 =>
    rename_i i k c A
    have f1 := is_cyc_cyc
    obtain ⟨g, off, c0, hv⟩ := h6.formR h2
    obtain ⟨rfl, rfl⟩ : A = some ⟨g, off, none⟩ ∧ c = c0 := by injection hv with a _ b; exact ⟨a, b⟩
    have hk : (pow1 N xs i k)[0]? = some i := by
      unfold pow1
      rw [List.getElem?_map, List.getElem?_range h2]
      exact congrArg some (tpow_one hT h1)
    obtain ⟨g2, off2, e2, -, x1⟩ := h6.nat hk
    obtain ⟨rfl, rfl⟩ : g = g2 ∧ off = off2 := by injection e2 with e; injection e with e1 e2; exact ⟨e1, e2⟩
    rw [Nat.add_zero] at x1
    have hmx := h6.bound
    unfold maxLen at hmx
    have HR := Lib.hid (row_new w #[.int .i64 (i : Int)] 1 3 rfl (by unfold maxLen; omega))
    have H1 := Lib.hid h1
    have H5 := Lib.hid h5
    clear h3 h4 h5 h6 hk hv e2 h1
    go_enter Try.func66, Try.ntmps66
    go_wp2_with fail
    go_ret
    exact ⟨⟨_, [i], rfl, HR.out, by simp, H5.out, fun g hg => by simp at hg; subst hg; exact H1.out⟩, bel1 _ _⟩
  | span h1 h2 h3 h0 h4 h5 h6 =>
    rename_i Hs Q m k c c' A A'
    have f1 := is_span_cyc
    have f2 := is_span_span
    have hl := h5.ilen
    rw [nints_length] at hl
    have H5 := Lib.hid (h5.below (bel1 w (.cells #[.slice A m c, .slice A' k c'] 86)))
    have Hx := Lib.hid (show Hs.length ≤ P.length + 1 ∧ SameGen N xs Hs P ∧ (∀ g ∈ Hs, g < N) ∧ Hs.length = m from ⟨h2, h3, h1, hl⟩)
    have hm2 : m ≤ 2097152 := by omega
    clear h1 h2 h3 h4 h5 h6 hl
    go_enter Try.func66, Try.ntmps66
    go_wp2_with fail
    refine (cloneInt_any A m c B (nints Hs) _ h0 hm2 H5.out).mono ?_
    rintro e w1 ⟨v, rfl, hr, hb1⟩
    have b1 := (bel1 w _).trans (hb1.mono (by simp))
    have HR := Lib.hid (row_mono hr (show w.heap.size ≤ _ by simp))
    clear hb1 hr
    go_wp2_with fail
    go_ret
    obtain ⟨a1, a2, a3, a4⟩ := Hx.out
    exact ⟨⟨_, Hs, rfl, by rw [a4]; exact HR.out, by omega, a2, a3⟩, b1⟩
set_option maxRecDepth 100000 in
set_option maxHeartbeats 800000 in
theorem extended_any (h g N i : Nat) (xs : List Int) (P : List Nat) (B : Nat) (v : Value) (w : World) (H : GrpAt w h g N xs) (hGr : Grp N xs) (hS : SubV N xs P B w v) (hP : ∀ g ∈ P, g < N) (hPl : P.length ≤ 1048576) (hi : i < N) :
    Calls Try.prog 64 #[.pointer (some ⟨h, 0, none⟩), v, .int .i64 i] w fun e w' => (∃ v', e = .returned v' ∧ SubV N xs (P ++ [i]) w.heap.size w' v') ∧ Below w.heap.size w w' := by
  obtain ⟨i0, hi0, hz0, hz1, hz2⟩ := infoR_parts infoInt
  have HGr := Lib.hid hGr
  have HP := Lib.hid hP
  have HH := Lib.hid (fun (w' : World) (hb : Below w.heap.size w w') => H.below hb)
  have HS := Lib.hid (fun (w' : World) (hb : Below w.heap.size w w') => hS.below hb)
  have key : (v = .iface 76 (.agg #[]) ∧ SameGen N xs [] P) ∨ (∃ t r, v = .iface t r ∧ ∀ w, Sem.run Try.prog (Instr.typeAssert (.iface t r) 61 76 true) w = .ok (.tuple #[.agg #[], .bool false]) w) := by
    cases hS with
    | triv h => exact .inl ⟨rfl, h⟩
    | cyc => exact .inr ⟨_, _, rfl, fun w => is_cyc_triv _ w⟩
    | span => exact .inr ⟨_, _, rfl, fun w => is_span_triv _ w⟩
  have Hi := Lib.hid hi
  have hsl : P.length + 1 ≤ 1048577 := by omega
  rcases key with ⟨rfl, hsg⟩ | ⟨t, r, rfl, f1⟩
  · have f1 := is_triv_triv
    have Hsg : Hid (SameGen N xs [i] (P ++ [i])) := SameGen.snoc (G := P) (G' := []) HGr.out.tab HP.out (fun g hg => by cases hg) hi hsg
    clear hS H hGr hP hsg
    go_enter Try.func64, Try.ntmps64
    go_wp2_with fail
    have b0 := bel1 w (.cells #[] 76)
    refine (powersOf_any h g N i xs _ (HH.out _ b0) HGr.out hi).mono ?_
    rintro e w1 ⟨⟨v, k, rfl, hk, hA, h0, o2⟩, hb1⟩
    have b1 := b0.trans (hb1.mono (by simp))
    obtain ⟨A2, c2, rfl⟩ := o2.form
    have HX : Hid (SubV N xs (P ++ [i]) w.heap.size w1 (.iface 53 (.slice A2 k c2))) := .cyc Hi.out hk hA h0 Hsg.out (o2.mono (by simp))
    clear hb1 hA h0 o2
    go_wp2_with fail
    go_ret
    exact ⟨⟨_, rfl, HX.out⟩, b1⟩
  · clear hS H hGr hP
    go_enter Try.func64, Try.ntmps64
    go_wp2_with fail
    have b0 := bel1 w (.cells #[] 76)
    refine (generatorsOf_any N xs P B _ _ (HS.out _ b0) HGr.out.tab hPl).mono ?_
    rintro e w1 ⟨⟨v1, Hs, rfl, hr, hl, hsg, hlt⟩, hb1⟩
    have b1 := b0.trans (hb1.mono (by simp))
    have hbs1 := b1.size
    have HR := Lib.hid (row_mono hr (show w.heap.size ≤ _ by simp))
    have Hsg : Hid (SameGen N xs (Hs ++ [i]) (P ++ [i])) := SameGen.snoc HGr.out.tab HP.out hlt hi hsg
    have Hlt : Hid (∀ g ∈ Hs ++ [i], g < N) := lt_snoc hlt hi
    have HHl : Hid ((Hs ++ [i]).length = Hs.length + 1) := by show _ = _; simp
    have Hni := Lib.hid (nints_snoc Hs i)
    obtain ⟨A1, c1, rfl⟩ := (Own.of_row hr).form
    clear hb1 hr hsg hlt
    go_wp2_with (at_builtin; refine wpList_append_own _ rfl _ _ 22 rfl w.heap.size 3 i0 (.int .i64 0) 1 8 Try.underlying22 hi0 hz0 hz1 hz2 rfl (by decide) _ _ _ rfl (HR.out.alloc _) ⟨w1.heap.size, 0, none⟩ 1 1 [.int .i64 (i : Int)] rfl rfl ?c1 ?c2 ?c3 ?c4 ?c5 ?_)
    case c1 => intro j u hj; match j, hj with | 0, hj => (simp at hj; subst hj; simp [Addr.add])
    case c2 => intro u hu; simp at hu; subst hu; rfl
    case c3 => unfold maxLen; omega
    case c4 => omega
    case c5 => simp; omega
    intro v2 w2 hown' hgrow _
    have HR2 : Hid (w2.ownsRow w.heap.size 3 1 v2 (Hs.length + 1) (ints (nints (Hs ++ [i])))) := by
      show World.ownsRow _ _ _ _ _ _ _
      rw [Hni.out]; simpa [ints] using hown'
    have b2 : Below w.heap.size w w2 := grown_one HR.out hgrow b1 (by omega) (by omega)
    have hbs2 := b2.size
    obtain ⟨A2, c2, rfl⟩ := (Own.of_row HR2.out).form
    clear hown' hgrow HR
    go_wp2_with fail
    refine (productsOf_any h g N A2 _ c2 w.heap.size xs (Hs ++ [i]) _ (HH.out _ b2) HGr.out (Own.of_row HR2.out) Hlt.out).mono ?_
    rintro e w3 ⟨⟨Q, k, c', A', rfl, hQ, hoQ⟩, hb3⟩
    have b3 := b2.trans (hb3.mono hbs2)
    have HX : Hid (SubV N xs (P ++ [i]) w.heap.size w3 (.iface 86 (.agg #[.slice A2 (Hs.length + 1) c2, .slice A' k c']))) :=
      .span Hlt.out (by rw [HHl.out, List.length_append, List.length_singleton]; omega) Hsg.out (by omega) hQ ((Own.of_row HR2.out).below hb3) (hoQ.mono hbs2)
    clear hb3 hQ hoQ
    go_wp2_with fail
    go_ret
    exact ⟨⟨_, rfl, HX.out⟩, b3⟩
theorem take_snoc_nat {G : List Nat} {k y : Nat} (h : G[k]? = some y) : G.take (k + 1) = G.take k ++ [y] := by
  rw [List.take_add_one, h]; rfl
set_option maxRecDepth 100000 in
set_option maxHeartbeats 800000 in
theorem subgroupWith_any (h g N : Nat) (E : Option Addr) (m d D : Nat) (xs : List Int) (G : List Nat) (w : World) (H : GrpAt w h g N xs) (hG : Grp N xs) (hE : Own D w (.slice E m d) 1 m (ints (nints G))) (hg : ∀ g ∈ G, g < N) (hm : m ≤ 1048576) :
    Calls Try.prog 49 #[.pointer (some ⟨h, 0, none⟩), .slice E m d] w fun e w' => (∃ v, e = .returned v ∧ SubV N xs G w.heap.size w' v) ∧ Below w.heap.size w w' := by
  have hml := hE.ilen
  rw [nints_length] at hml
  have hmx := hE.bound
  unfold maxLen at hmx
  have HE := Lib.hid (fun (w' : World) (hb : Below w.heap.size w w') => hE.below hb)
  have HH := Lib.hid (fun (w' : World) (hb : Below w.heap.size w w') => H.below hb)
  have HG := Lib.hid hG
  have Hg := Lib.hid hg
  have Hml := Lib.hid hml
  clear H hG hE hg hml
  go_enter Try.func49, Try.ntmps49
  go_wp2_with fail
  go_loopw [5, 12] (fun v i' wr => ∃ k : Nat, i' = .int .i64 k ∧ k ≤ m ∧ Hid (SubV N xs (G.take k) w.heap.size wr v) ∧ Below w.heap.size w wr) (fun _ i' _ => m - (intOf i').toNat)
  case atStart => exact ⟨0, rfl, Nat.zero_le _, .triv (SameGen.refl _), Below.refl _ _⟩
  case round =>
    obtain ⟨k, rfl, hk, HS, hb⟩ := hrel
    have hbs := hb.size
    by_cases hlt : k < m
    · obtain ⟨y, hy⟩ : ∃ y, G[k]? = some y := ⟨G[k]'(by have := Hml.out; omega), List.getElem?_eq_getElem _⟩
      obtain ⟨ge, eo, rfl, -, x1⟩ := (HE.out _ hb).nat hy
      have hyN := Hg.out y (List.mem_of_getElem? hy)
      have Ht := Lib.hid (take_snoc_nat hy)
      have HPt : Hid (∀ g ∈ G.take k, g < N) := fun g hg => Hg.out g (List.mem_of_mem_take hg)
      have HPl : Hid ((G.take k).length ≤ 1048576) := by show _ ≤ _; rw [List.length_take]; have := Hml.out; omega
      obtain ⟨t, r, f, rfl, hm1, hm2, hcl⟩ := HS.out.callee
      have HC := Lib.hid hcl
      clear hy hcl
      go_wp2_with fail
      refine (HC.out wr y (Below.refl _ _)).mono ?_
      rintro e w2 ⟨rfl, hb2⟩
      have hb3 := hb.trans (hb2.mono hbs)
      have hbs3 := hb3.size
      have HS2 := Lib.hid (HS.out.below hb2)
      clear hb2 hm1 hm2 HC HS
      cases hgb : genB N xs (G.take k) y
      · clear hgb
        go_wp2_with fail
        refine (extended_any h g N y xs (G.take k) w.heap.size _ _ (HH.out _ hb3) HG.out HS2.out HPt.out HPl.out hyN).mono ?_
        rintro e w4 ⟨⟨v4, rfl, hS4⟩, hb4⟩
        rw [← Ht.out] at hS4
        have hb5 := hb3.trans (hb4.mono hbs3)
        have HS5 : Hid (SubV N xs (G.take (k + 1)) w.heap.size w4 v4) := hS4.mono hbs3
        obtain ⟨t4, r4, -, rfl, -⟩ := hS4.callee
        clear hb4 hS4
        go_wp2_with fail
        go_roundw
        case rel => exact ⟨k + 1, by go_num, by omega, HS5, hb5⟩
        case measure => simp [intOf]; omega
      · have HS3 : Hid (SubV N xs (G.take (k + 1)) w.heap.size w2 (.iface t r)) := by
          show SubV _ _ _ _ _ _
          rw [Ht.out]; exact HS2.out.has HG.out.tab HPt.out (of_cdec hgb)
        clear hgb HS2
        go_wp2_with fail
        go_roundw
        case rel => exact ⟨k + 1, by go_num, by omega, HS3, hb3⟩
        case measure => simp [intOf]; omega
    · obtain rfl : m = k := by omega
      have HSf := HS
      rw [List.take_of_length_le (by rw [Hml.out]; exact Nat.le_refl _)] at HSf
      obtain ⟨t, r, -, rfl, -⟩ := HS.out.callee
      go_wp2_with fail
      go_ret
      exact ⟨⟨_, rfl, HSf.out⟩, hb⟩
end Go.Proofs.Ytkiomohpmajjcaa
