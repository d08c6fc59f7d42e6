/- The program's SortingSystem, ProjectorSystem, BracketSystem. -/
import Derived.Test.YtlehdmflnglipaaDoorKnownFns
namespace Go.Proofs.YtlehdmflnglipaaDoor
open Go.RowKit

/-- What lies in blocks that hold no makers is as it was. -/
def FKept (w w' : World) : Prop := w.heap.size ≤ w'.heap.size ∧ ∀ (b : Nat) (cs : Array Value) (t : TypeId) (fr : Nat × Nat), t ≠ 83 → w.heap[b]? = some (.cells cs t fr) → w'.heap[b]? = some (.cells cs t fr)
theorem FKept.below {w w' : World} (hb : Below w.heap.size w w') : FKept w w' :=
  ⟨hb.size, fun b cs t fr _ h => by
    have hlt : b < w.heap.size := by
      rcases Nat.lt_or_ge b w.heap.size with hlt | hge
      · exact hlt
      · rw [Array.getElem?_eq_none hge] at h; cases h
    exact (hb.block b hlt).trans h⟩
theorem FKept.trans {a b c : World} (h : FKept a b) (h' : FKept b c) : FKept a c := ⟨Nat.le_trans h.1 h'.1, fun x cs t fr ht hx => h'.2 x cs t fr ht (h.2 x cs t fr ht hx)⟩
theorem FKept.refl (w : World) : FKept w w := ⟨Nat.le_refl _, fun _ _ _ _ _ h => h⟩
theorem FKept.blk {w w' : World} (h : FKept w w') {b : Nat} {t : TypeId} {cs : Array Value} (ht : t ≠ 83) (hb : Blk w b t cs) : Blk w' b t cs := h.2 b cs t (0, 0) ht hb
theorem FKept.grown {w w' : World} {base n : Nat} {v : Value} {xs : List Value} {o : Obj} (hown : w.ownsRow base 83 1 v n xs) (hg : (w.alloc o).grownBy w' v.ownBlock) : FKept w w' := by
  refine ⟨by have := hg.size; simp at this; omega, fun b cs t fr ht h => ?_⟩
  have hlt : b < w.heap.size := by
    rcases Nat.lt_or_ge b w.heap.size with hlt | hge
    · exact hlt
    · rw [Array.getElem?_eq_none hge] at h; cases h
  rw [hg.block b (by simp; omega) (fun e => ?_), Below.heap_alloc _ _ _ hlt]
  · exact h
  · rcases hown.2 with ⟨rfl, _⟩ | ⟨g, cap, cur, rfl, hg', hh, r⟩
    · simp [Value.ownBlock] at e
    · simp only [Value.ownBlock, Option.some.injEq] at e
      subst e
      rw [hh] at h
      simp only [Option.some.injEq, Obj.cells.injEq] at h
      exact ht h.2.1.symm
/-- fv makes the rule r as long as what it stands on is as it was. -/
def MakerOn (w : World) (fv : Value) (r : R) : Prop :=
  ∃ (F : FuncId) (caps : Array Value), fv = .func (.func F) #[] caps ∧ (∀ args W, Sem.run Tryd.prog (callFunc F args) W = .ok (.enter F args) W) ∧
    ∀ W, FKept w W → Let W → Calls Tryd.prog F caps W fun e W' => e = .returned (ruleV r) ∧ Below W.heap.size W W'
theorem MakerOn.kept {w w' : World} {fv : Value} {r : R} (h : MakerOn w fv r) (hk : FKept w w') : MakerOn w' fv r := by
  obtain ⟨F, caps, h1, h2, h3⟩ := h
  exact ⟨F, caps, h1, h2, fun W hW hL => h3 W (hk.trans hW) hL⟩
theorem MakerOn.at_ {w : World} {fv : Value} {r : R} (h : MakerOn w fv r) (hL : Let w) : MakerAt w fv r := by
  obtain ⟨F, caps, h1, h2, h3⟩ := h
  exact ⟨F, caps, h1, h2, fun W hW => h3 W (.below hW) (hL.keep hW (Nat.le_refl _))⟩
/-- The makers of rs, in a row that may grow. -/
def MakersTo (B : Nat) (w : World) (v : Value) (rs : List R) (fs : List Value) : Prop := w.ownsRow B 83 1 v rs.length fs ∧ ∀ (j : Nat) (f : Value) (r : R), fs[j]? = some f → rs[j]? = some r → MakerOn w f r
theorem MakersTo.nil (B : Nat) (w : World) : MakersTo B w (.slice none 0 0) [] [] := ⟨World.ownsRow_nil _ _ _ _, fun j f r h => by simp at h⟩
theorem MakersTo.next {B : Nat} {w w6 : World} {o : Obj} {v v' fv : Value} {rs : List R} {fs : List Value} {r : R} (h : MakersTo B w v rs fs) (hown : w6.ownsRow B 83 1 v' (rs.length + 1) (fs ++ [fv])) (hg : (w.alloc o).grownBy w6 v.ownBlock) (hf : MakerOn w fv r) :
    MakersTo B w6 v' (rs ++ [r]) (fs ++ [fv]) := by
  have hk := FKept.grown h.1 hg
  have hfl : fs.length = rs.length := by have := h.1.1; omega
  refine ⟨by rw [List.length_append]; exact hown, fun j f r' h1 h2 => ?_⟩
  by_cases hj : j < rs.length
  · rw [List.getElem?_append_left (by omega)] at h1 h2
    exact (h.2 j f r' h1 h2).kept hk
  · have hjl := (List.getElem?_eq_some_iff.1 h2).1
    rw [List.length_append, List.length_singleton] at hjl
    obtain rfl : j = rs.length := by omega
    rw [List.getElem?_append_right (by omega)] at h1 h2
    simp [hfl] at h1 h2
    subst h1 h2
    exact hf.kept hk
theorem MakersTo.alloc {B : Nat} {w : World} {v : Value} {rs : List R} {fs : List Value} (h : MakersTo B w v rs fs) (o : Obj) : MakersTo B (w.alloc o) v rs fs := ⟨h.1.alloc o, fun j f r a b => (h.2 j f r a b).kept (.below (bel1 w o))⟩
theorem MakersTo.done {B : Nat} {w : World} {v : Value} {rs : List R} {fs : List Value} (h : MakersTo B w v rs fs) (hL : Let w) : Makers B w v rs := ⟨fs, Own.of_row h.1, fun j f r a b => (h.2 j f r a b).at_ hL⟩
theorem infoMaker : (Tryd.prog.info? 83).map (fun i => (i.zero, i.size, i.bytes)) = some (some .nilFunc, 1, 8) := by kernel_rfl
theorem one_funcK (f : Fn) (caps : Array Value) : ∀ x ∈ [Value.func f #[] caps], x.oneCell' = true := fun x hx => by simp at hx; subst hx; rfl
theorem sortMaker {w : World} {p q y x : Nat} (hP : Blk w p 3 #[.int .i64 (y : Int)]) (hQ : Blk w q 3 #[.int .i64 (x : Int)]) (hy : y < 4) (hx : x < 4) :
    MakerOn w (.func (.func 36) #[] #[.pointer (some ⟨p, 0, none⟩), .pointer (some ⟨q, 0, none⟩)]) (letW [y, x], letW [x, y]) :=
  ⟨_, _, rfl, fun _ _ => by kernel_rfl, fun W hk hL => sortFn_any p q y x W (hk.blk (by decide) hP) (hk.blk (by decide) hQ) hy hx hL⟩
theorem projMaker {w : World} {p x : Nat} (hP : Blk w p 3 #[.int .i64 (x : Int)]) (hx : x < 4) :
    MakerOn w (.func (.func 37) #[] #[.pointer (some ⟨p, 0, none⟩)]) (letW [x, x], letW [x]) :=
  ⟨_, _, rfl, fun _ _ => by kernel_rfl, fun W hk hL => projFn_any p x W (hk.blk (by decide) hP) hx hL⟩
theorem brackMaker {w : World} {p i : Nat} (hP : Blk w p 3 #[.int .i64 (i : Int)]) (hi : i < 2) :
    MakerOn w (.func (.func 38) #[] #[.pointer (some ⟨p, 0, none⟩)]) (letW [2 * i, 2 * i + 1], ⟨#[]⟩) :=
  ⟨_, _, rfl, fun _ _ => by kernel_rfl, fun W hk hL => brackFn_any p i W (hk.blk (by decide) hP) hi hL⟩
abbrev zSys : Obj := .cells #[.int .i64 0, .slice none 0 0] 24
theorem projOf_no {k : Int} (h : ¬ (1 ≤ k ∧ k ≤ 4)) : projOf k = (0, [], false) := by unfold projOf; rw [if_neg h]
theorem projOf_yes {k : Nat} (h : 1 ≤ k ∧ k ≤ 4) : projOf k = ((k : Int), projTo k, true) := by unfold projOf; rw [if_pos (by omega)]; rfl
set_option maxRecDepth 100000 in
set_option maxHeartbeats 1600000 in
theorem implProjectorSystem (k : Int) (w : World) (hL : Let w) :
    Calls Tryd.prog 16 #[.int .i64 k] w fun e w' => SysAns w (projOf k) e w' := by
  obtain ⟨i0, hi0, hz0, hz1, hz2⟩ := infoR_parts infoMaker
  have HL := Lib.hid (fun (w' : World) (hb : Below w.heap.size w w') => hL.keep hb (Nat.le_refl _))
  clear hL
  have b1 := bel1 w zSys
  have HZ1 := Lib.hid (Blk.new1 w #[.int .i64 0, .slice none 0 0] 24)
  go_enter Tryd.func16, Tryd.ntmps16
  go_wp2_with fail
  refine (lettersOk_any k _).mono ?_
  by_cases hk : 1 ≤ k ∧ k ≤ 4
  case neg =>
    rw [show inK k = false by unfold inK; simp; omega]
    rintro e w2 ⟨rfl, rfl⟩
    have He := Lib.hid (projOf_no hk)
    clear hk
    obtain ⟨z0, z1, zf0, zf1, zl⟩ := HZ1.out.two
    go_wp2_with fail
    refine bodyPost_ret (v := .tuple #[.agg #[.int .i64 0, .slice none 0 0], .bool false]) (by simp [results, Tryd.results16, go_sem, *]) rfl ?_
    rw [He.out]
    exact ⟨none, 0, rfl, Own.none_, b1⟩
  rw [show inK k = true by unfold inK; simp; omega]
  rintro e w2 ⟨rfl, rfl⟩
  obtain ⟨K, rfl⟩ : ∃ K : Nat, k = K := ⟨k.toNat, by omega⟩
  have hK1 : 1 ≤ K := by omega
  have hK4 : K ≤ 4 := by omega
  have He := Lib.hid (projOf_yes (k := K) (by omega))
  clear hk
  have hs1 : (w.alloc zSys).heap.size = w.heap.size + 1 := by simp
  have HM1 := Lib.hid (MakersTo.nil (w.heap.size + 1) (w.alloc zSys))
  change Below w.heap.size w (w.alloc (.cells #[.int .i64 0, .slice none 0 0] 24)) at b1
  change (w.alloc (.cells #[.int .i64 0, .slice none 0 0] 24)).heap.size = w.heap.size + 1 at hs1
  change Hid (MakersTo (w.heap.size + 1) (w.alloc (.cells #[.int .i64 0, .slice none 0 0] 24)) _ _ _) at HM1
  generalize w.alloc (.cells #[.int .i64 0, .slice none 0 0] 24) = w1 at *
  go_wp2_with fail
  go_loopw [4, 11] (fun v p wr => ∃ (i : Nat) (fs : List Value), p = .int .i64 i ∧ i ≤ K ∧ Hid (Blk wr w.heap.size 24 #[.int .i64 0, .slice none 0 0]) ∧ Hid (MakersTo (w.heap.size + 1) wr v (projTo i) fs) ∧ Below w.heap.size w wr) (fun _ p _ => K - (intOf p).toNat)
  case atStart => exact ⟨0, [], rfl, Nat.zero_le _, HZ1, HM1, b1⟩
  case round =>
    clear HM1 HZ1 b1
    obtain ⟨i, fs, rfl, hi, HZ, HM, hb⟩ := hrel
    have hzl := HZ.out.lt
    by_cases hlt : i < K
    · have Hst := Lib.hid (projTo_succ i)
      have HP6 := Lib.hid (Blk.new1 wr #[.int .i64 (i : Int)] 3)
      have HM6 := Lib.hid (HM.out.alloc (.cells #[.int .i64 (i : Int)] 3))
      have HZ6 := Lib.hid (HZ.out.alloc (.cells #[.int .i64 (i : Int)] 3))
      have hb6 := hb.alloc hb.size (.cells #[.int .i64 (i : Int)] 3)
      have hpl : (projTo i).length ≤ 4 := by rw [projTo_len]; omega
      generalize projTo i = PL at *
      go_wp2_with (at_builtin; refine wpList_append_own _ rfl _ _ 49 rfl (w.heap.size + 1) 83 i0 .nilFunc 1 8 Tryd.underlying49 hi0 hz0 hz1 hz2 rfl (by decide) _ _ _ rfl (HM6.out.1.alloc _) ⟨wr.heap.size + 1, 0, none⟩ 1 1 [.func (.func 37) #[] #[.pointer (some ⟨wr.heap.size, 0, none⟩)]] rfl rfl ?c1 ?c2 ?c3 ?c4 ?c5 ?_)
      case c1 => intro j u hj; match j, hj with | 0, hj => (simp at hj; subst hj; simp [Addr.add])
      case c2 => exact one_funcK _ _
      case c3 => unfold maxLen; omega
      case c4 => omega
      case c5 => simp; omega
      intro v' w6 hown' hgrow _
      have HM7 : Hid (MakersTo (w.heap.size + 1) w6 v' (projTo (i + 1)) (fs ++ [.func (.func 37) #[] #[.pointer (some ⟨wr.heap.size, 0, none⟩)]])) := by
        show MakersTo _ _ _ _ _
        rw [Hst.out]
        exact HM6.out.next hown' hgrow (projMaker HP6.out (by omega))
      have hb7 : Below w.heap.size w w6 := grown_one HM6.out.1 hgrow hb6 (by omega) (by simp; omega)
      have HZ7 : Hid (Blk w6 w.heap.size 24 #[.int .i64 0, .slice none 0 0]) := (FKept.grown HM6.out.1 hgrow).blk (by decide) HZ6.out
      clear hown' hgrow HM6 HZ6 HP6 hb6 HM HZ hb
      go_wp2_with fail
      go_roundw
      case rel => exact ⟨i + 1, _, by go_num, by omega, HZ7, HM7, hb7⟩
      case measure => simp [intOf]; omega
    · obtain rfl : K = i := by omega
      have HL1 := HL.out _ hb
      obtain ⟨A9, c9, hv9⟩ := (HM.out.done HL1).form
      have HD := Lib.hid (HM.out.done HL1)
      subst hv9
      have hpl := projTo_len K
      have HMB := Lib.hid (madeBy_any K A9 (projTo K).length c9 (w.heap.size + 1) (projTo K) wr HD.out rfl (by omega))
      clear hpl HM HL1
      generalize projTo K = PL at *
      go_wp2_with fail
      refine HMB.out.mono ?_
      rintro e w7 ⟨A7, c7, rfl, o7, hb7⟩
      have b7 := hb.trans (hb7.mono hb.size)
      have HZ7 := Lib.hid (HZ.out.below hb7 HZ.out.lt)
      have O7 := Lib.hid o7
      clear hb7 o7 HZ
      obtain ⟨z0, z1, zf0, zf1, zl⟩ := HZ7.out.two
      go_wp2_with fail
      refine bodyPost_ret (v := .tuple #[.agg #[.int .i64 (K : Int), .slice A7 PL.length c7], .bool true]) (by simp [results, Tryd.results16, go_sem, *]) rfl ?_
      rw [He.out]
      refine ⟨A7, c7, rfl, ?_, ?_⟩
      · exact ((O7.out.far (by show w.heap.size < wr.heap.size; exact hzl) _).far (by show w.heap.size < wr.heap.size; exact hzl) _).mono (by omega)
      · exact (b7.setCell (Nat.le_refl _) _).setCell (Nat.le_refl _) _
end Go.Proofs.YtlehdmflnglipaaDoor
