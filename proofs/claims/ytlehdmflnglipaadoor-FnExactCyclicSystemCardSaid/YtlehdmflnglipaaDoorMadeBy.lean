/- The program's madeBy: a system by the makers of its rules. -/
import Derived.Test.YtlehdmflnglipaaDoorSpelled
import Derived.Test.YtlehdmflnglipaaDoorTabFns
import Derived.Deep.RegionLaw
import Derived.Deep.AppendLies
import Derived.Deep.RegionHeld3
namespace Go.Proofs.YtlehdmflnglipaaDoor
open Go.RowKit

/-- fv makes the rule r, now and later. -/
def MakerAt (w : World) (fv : Value) (r : R) : Prop :=
  ∃ (F : FuncId) (caps : Array Value), fv = .func (.func F) #[] caps ∧ (∀ args W, Sem.run Tryd.prog (callFunc F args) W = .ok (.enter F args) W) ∧
    ∀ W, Below w.heap.size w W → Calls Tryd.prog F caps W fun e W' => e = .returned (ruleV r) ∧ Below W.heap.size W W'
theorem MakerAt.below {w w' : World} {fv : Value} {r : R} (h : MakerAt w fv r) (hb : Below w.heap.size w w') : MakerAt w' fv r := by
  obtain ⟨F, caps, h1, h2, h3⟩ := h
  exact ⟨F, caps, h1, h2, fun W hW => h3 W (hb.trans (hW.mono hb.size))⟩
/-- A list of makers. -/
def Makers (B : Nat) (w : World) (v : Value) (rs : List R) : Prop := ∃ fs : List Value, Own B w v 1 rs.length fs ∧ ∀ (j : Nat) (f : Value) (r : R), fs[j]? = some f → rs[j]? = some r → MakerAt w f r
theorem Makers.below {B : Nat} {w w' : World} {v : Value} {rs : List R} (h : Makers B w v rs) (hb : Below w.heap.size w w') : Makers B w' v rs := by
  obtain ⟨fs, h1, h2⟩ := h
  exact ⟨fs, h1.below hb, fun j f r a b => (h2 j f r a b).below hb⟩
theorem Makers.form {B : Nat} {w : World} {v : Value} {rs : List R} (h : Makers B w v rs) : ∃ A c, v = .slice A rs.length c := by obtain ⟨fs, h1, h2⟩ := h; exact h1.form
theorem Makers.at_ {B : Nat} {w : World} {A : Option Addr} {n c : Nat} {rs : List R} (h : Makers B w (.slice A n c) rs) {j : Nat} {r : R} (hj : rs[j]? = some r) :
    ∃ g off fv, A = some ⟨g, off, none⟩ ∧ n = rs.length ∧ w.cell? ⟨g, off + j, none⟩ = some fv ∧ MakerAt w fv r := by
  obtain ⟨fs, h1, h2⟩ := h
  have hjl : j < rs.length := (List.getElem?_eq_some_iff.1 hj).1
  obtain ⟨g, off, c0, hv⟩ := h1.formR (by omega)
  have hfl := h1.1
  injection hv with e1 e2 e3
  subst e1 e2 e3
  have hc := (h1.cellAt (by omega) (i := j) (by omega)).1
  obtain ⟨f, hf⟩ : ∃ f, fs[j]? = some f := ⟨fs[j]'(by omega), List.getElem?_eq_getElem _⟩
  exact ⟨g, off, f, rfl, rfl, hc.trans hf, h2 j f r hf hj⟩
theorem infoRuleK : (Tryd.prog.info? 44).map (fun i => (i.zero, i.size, i.bytes)) = some (some (.agg #[.string ⟨#[]⟩, .string ⟨#[]⟩]), 2, 32) := by kernel_rfl
theorem news2K {W : World} {g : Nat} {u v : Value} {t : TypeId} (h : Blk W g t #[u, v]) : ∀ j x, [u, v][j]? = some x → W.cell? ((⟨g, 0, none⟩ : Addr).add j) = some x := fun j x hj => by
  match j, hj with
  | 0, hj => simp at hj; subst hj; exact (h.cell 0)
  | 1, hj => simp at hj; subst hj; exact (h.cell 1)
theorem two_strK (u v : ByteArray) : ∀ x ∈ [Value.string u, Value.string v], x.oneCell' = true := fun x hx => by
  simp at hx; rcases hx with rfl | rfl <;> rfl
theorem ownsRow_sameK {W w : World} {base n : Nat} {e : TypeId} {size : Nat} {v : Value} {xs : List Value} (h : W.ownsRow base e size v n xs) (hk : ∀ b, base ≤ b → w.heap[b]? = W.heap[b]?) : w.ownsRow base e size v n xs := by
  obtain ⟨hl, h2⟩ := h
  refine ⟨hl, ?_⟩
  rcases h2 with ⟨rfl, rfl⟩ | ⟨g, cap, cur, rfl, hg, hh, r⟩
  · exact .inl ⟨rfl, rfl⟩
  · exact .inr ⟨g, cap, cur, rfl, hg, (hk g hg).trans hh, r⟩
set_option maxRecDepth 100000 in
set_option maxHeartbeats 1600000 in
theorem madeBy_any (k : Int) (A : Option Addr) (n c D : Nat) (rs : List R) (w : World) (h : Makers D w (.slice A n c) rs) (hn : n = rs.length) (h16 : n ≤ 16) :
    Calls Tryd.prog 30 #[.int .i64 k, .slice A n c] w fun e w' => ∃ A' c', e = .returned (.agg #[.int .i64 k, .slice A' rs.length c']) ∧ Own w.heap.size w' (.slice A' rs.length c') 2 rs.length (rulesC rs) ∧ Below w.heap.size w w' := by
  obtain ⟨i0, hi0, hz0, hz1, hz2⟩ := infoR_parts infoRuleK
  have HM := Lib.hid (fun (w' : World) (hb : Below w.heap.size w w') => h.below hb)
  have Hn := Lib.hid hn
  clear h hn
  have HZ0 := Lib.hid ((Blk.new1 w #[.int .i64 0, .slice none 0 0] 24).alloc (.cells #[.int .i64 k, .slice none 0 0] 24))
  have HY0 := Lib.hid (Blk.new2 w (.cells #[.int .i64 0, .slice none 0 0] 24) #[.int .i64 k, .slice none 0 0] 24)
  have HR0 := Lib.hid (World.ownsRow_nil ((w.alloc (.cells #[.int .i64 0, .slice none 0 0] 24)).alloc (.cells #[.int .i64 k, .slice none 0 0] 24)) (w.heap.size + 2) 44 2)
  have b0 := bel2 w (.cells #[.int .i64 0, .slice none 0 0] 24) (.cells #[.int .i64 k, .slice none 0 0] 24)
  have hs0 : w.heap.size + 2 ≤ ((w.alloc (.cells #[.int .i64 0, .slice none 0 0] 24)).alloc (.cells #[.int .i64 k, .slice none 0 0] 24)).heap.size := by simp
  go_enter Tryd.func30, Tryd.ntmps30
  go_wp2_with fail
  generalize (w.alloc (.cells #[.int .i64 0, .slice none 0 0] 24)).alloc (.cells #[.int .i64 k, .slice none 0 0] 24) = w1 at *
  go_loopw [12] (fun p wr => ∃ (i : Nat) (vv : Value), p = .int .i64 i ∧ i ≤ n ∧ Hid (Blk wr (w.heap.size + 1) 24 #[.int .i64 k, vv]) ∧ Hid (Blk wr w.heap.size 24 #[.int .i64 0, .slice none 0 0]) ∧ Hid (wr.ownsRow (w.heap.size + 2) 44 2 vv i (rulesC (rs.take i))) ∧ Below w.heap.size w wr ∧ w.heap.size + 2 ≤ wr.heap.size) (fun p _ => n - (intOf p).toNat)
  case atStart => exact ⟨0, _, rfl, Nat.zero_le _, HY0, HZ0, by simpa [rulesC] using HR0, b0, hs0⟩
  case round =>
    clear HR0 HY0 HZ0 b0 hs0
    obtain ⟨i, vv, rfl, hi, HY, HZ, HR, hb, hs⟩ := hrel
    by_cases hlt : i < n
    · obtain ⟨r, hr⟩ : ∃ r, rs[i]? = some r := ⟨rs[i]'(by have := Hn.out; omega), List.getElem?_eq_getElem _⟩
      obtain ⟨g, off, fv, rfl, -, x0, F, caps, rfl, hcf, hcl⟩ := (HM.out _ hb).at_ hr
      have HC := Lib.hid hcl
      have Hst := Lib.hid (show rulesC (rs.take (i + 1)) = rulesC (rs.take i) ++ [.string r.1, .string r.2] by rw [List.take_add_one, hr]; exact rulesC_snoc _ _)
      obtain ⟨A9, c9, hv9⟩ := (Own.of_row HR.out).form
      subst hv9
      generalize rulesC (rs.take i) = PP at *
      have t1 : wr.cell? ⟨w.heap.size + 1, 1, none⟩ = some (.slice A9 i c9) := HY.out.cell 1
      have hd0 : Below wr.heap.size wr wr.drew := (Below.refl _ wr).drew
      obtain ⟨r1, r2⟩ := r
      clear hcl hr
      dsimp only at Hst
      go_wp2_with fail
      go_region_law (first
        | (refine (id ?_); rw [if_pos (by simp [Region.wanted])]; go_simp; refine (HC.out _ hd0).mono ?_; rintro e w7 ⟨rfl, hb7⟩; have hb7' : Below wr.heap.size wr w7 := hd0.trans hb7; have HY7 := Lib.hid (HY.out.below hb7' HY.out.lt); have t7 : w7.cell? ⟨w.heap.size + 1, 1, none⟩ = some (.slice A9 i c9) := HY7.out.cell 1; have t8 : (w7.alloc (.cells #[.string r1, .string r2] 44)).cell? ⟨w.heap.size + 1, 1, none⟩ = some (.slice A9 i c9) := (HY7.out.alloc _).cell 1; go_simp)
        | (refine (id ?_); rw [if_pos (by simp [Region.wanted])]; refine wp_append_lies _ (.tmp 17) (.tmp 20) 22 rfl (w.heap.size + 2) 44 i0 (.agg #[.string ⟨#[]⟩, .string ⟨#[]⟩]) 2 32 Tryd.underlying22 hi0 hz0 hz1 hz2 rfl (by omega) (.slice A9 i c9) i PP (by first | rfl | simp [Act.eval, Act.put]) ((row_below HR.out hb7').alloc _) ⟨w7.heap.size, 0, none⟩ 1 1 [.string r1, .string r2] (by first | rfl | simp [Act.eval, Act.put]) rfl (news2K (Blk.new1 w7 _ _)) (two_strK r1 r2) (by omega) (by unfold maxLen; omega) (by omega) (by have := hb7'.size; simp; omega) (w7.heap.size + 1) (by simp) ?_; intro g9 cp9 w9 hown9 hgrow9 hat9 hlt9; have HY9 : Hid (Blk w9 (w.heap.size + 1) 24 #[.int .i64 k, .slice A9 i c9]) := (hgrow9.block _ (by have := hb7'.size; simp; omega) (fun h => by have := ownsRow_ge HR.out h; omega)).trans (HY7.out.alloc _); have z1 : w9.cell? ⟨w.heap.size + 1, 1, none⟩ = some (.slice A9 i c9) := HY9.out.cell 1; have zf : w9.frozen? ⟨w.heap.size + 1, 1, none⟩ = false := HY9.out.frozen 1))
      all_goals (
        have HZ9 : Hid (Blk w9 w.heap.size 24 #[.int .i64 0, .slice none 0 0]) := (hgrow9.block _ (by have := hb7'.size; simp; omega) (fun h => by have := ownsRow_ge HR.out h; omega)).trans ((HZ.out.below hb7' HZ.out.lt).alloc _)
        have HY10 : Hid (Blk (w9.setCell ⟨w.heap.size + 1, 1, none⟩ (.slice (some ⟨g9, 0, none⟩) (i + 1) cp9)) (w.heap.size + 1) 24 #[.int .i64 k, .slice (some ⟨g9, 0, none⟩) (i + 1) cp9]) := HY9.out.set_ 1 _
        have HZ10 : Hid (Blk (w9.setCell ⟨w.heap.size + 1, 1, none⟩ (.slice (some ⟨g9, 0, none⟩) (i + 1) cp9)) w.heap.size 24 #[.int .i64 0, .slice none 0 0]) := HZ9.out.far (by show w.heap.size ≠ w.heap.size + 1; omega) _
        have HR10 : Hid ((w9.setCell ⟨w.heap.size + 1, 1, none⟩ (.slice (some ⟨g9, 0, none⟩) (i + 1) cp9)).ownsRow (w.heap.size + 2) 44 2 (.slice (some ⟨g9, 0, none⟩) (i + 1) cp9) (i + 1) (rulesC (rs.take (i + 1)))) := by
          show World.ownsRow _ _ _ _ _ _ _
          rw [Hst.out]
          exact ownsRow_sameK (W := w9) hown9 (fun b hb => Below.heap_setCell w9 ⟨w.heap.size + 1, 1, none⟩ _ b (by show b ≠ w.heap.size + 1; omega))
        have b9 : Below w.heap.size w w9 := grown_one (row_below HR.out hb7') hgrow9 (hb.trans (hb7'.mono hb.size)) (by omega) (by have := hb7'.size; omega)
        have b10 := b9.setCell (p := ⟨w.heap.size + 1, 1, none⟩) (by show w.heap.size ≤ w.heap.size + 1; omega) (.slice (some ⟨g9, 0, none⟩) (i + 1) cp9)
        have hs10 : w.heap.size + 2 ≤ (w9.setCell ⟨w.heap.size + 1, 1, none⟩ (.slice (some ⟨g9, 0, none⟩) (i + 1) cp9)).heap.size := by have h9 := hgrow9.size; have := hb7'.size; simp at h9; simp; omega
        clear hown9 hgrow9 hat9 z1 zf HY9 HZ9 b9 t1 t7 t8 hb7 hb7' hcf
        go_wp2_with fail
        go_roundw
        case rel => exact ⟨i + 1, _, by go_num, by omega, HY10, HZ10, HR10, b10, hs10⟩
        case measure => simp [intOf]; omega)
    · obtain rfl : n = i := by omega
      obtain ⟨A9, c9, hv9⟩ := (Own.of_row HR.out).form
      subst hv9
      have hfull : rs.take n = rs := List.take_of_length_le (by have := Hn.out; omega)
      have HO := Lib.hid (Own.of_row HR.out)
      rw [hfull] at HO
      obtain ⟨t0, t1, -, -, tl⟩ := HY.out.two
      obtain ⟨z0, z1, zf0, zf1, zl⟩ := HZ.out.two
      clear hfull
      go_wp2_with fail
      refine bodyPost_ret (v := .agg #[.int .i64 k, .slice A9 n c9]) (by simp [results, Tryd.results30, go_sem, *]) rfl ?_
      rw [← Hn.out]
      refine ⟨A9, c9, rfl, ?_, ?_⟩
      · exact ((HO.out.far (by show w.heap.size < w.heap.size + 2; omega) _).far (by show w.heap.size < w.heap.size + 2; omega) _).mono (by omega)
      · exact (hb.setCell (Nat.le_refl _) _).setCell (Nat.le_refl _) _
end Go.Proofs.YtlehdmflnglipaaDoor
