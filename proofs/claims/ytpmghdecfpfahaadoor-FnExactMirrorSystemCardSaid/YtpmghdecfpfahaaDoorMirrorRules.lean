/- mirrorRule and both MirrorSystem. -/
import Derived.Test.YtpmghdecfpfahaaDoorOrient
import Derived.Test.YtpmghdecfpfahaaDoorMirror
import Derived.Deep.RegionWith
import Derived.Deep.DeepCutAuto
import Derived.Deep.CutRange
namespace Go.Proofs.YtpmghdecfpfahaaDoor
open Go.RowKit Go.Joins

/-- A rule's two cells, and its result's two cells that may be written, in one world. -/
def FourC (w : World) (g h : Nat) (a b c d : Value) : Prop :=
  (w.cell? ⟨g, 0, none⟩ = some a ∧ w.cell? ⟨g, 1, none⟩ = some b) ∧ (w.cell? ⟨h, 0, none⟩ = some c ∧ w.cell? ⟨h, 1, none⟩ = some d) ∧ (w.frozen? ⟨h, 0, none⟩ = false ∧ w.frozen? ⟨h, 1, none⟩ = false) ∧ g < w.heap.size ∧ h < w.heap.size
theorem FourC.below {w w' : World} {g h : Nat} {a b c d : Value} (k : FourC w g h a b c d) (hb : Below w.heap.size w w') : FourC w' g h a b c d := by
  obtain ⟨⟨k1, k2⟩, ⟨k3, k4⟩, ⟨k5, k6⟩, k7, k8⟩ := k
  have hs := hb.size
  exact ⟨⟨(hb.cell k7).trans k1, (hb.cell k7).trans k2⟩, ⟨(hb.cell k8).trans k3, (hb.cell k8).trans k4⟩, ⟨(hb.frozen k8).trans k5, (hb.frozen k8).trans k6⟩, by omega, by omega⟩
def mirR0 (r : R) : R := (mirS r.1, mirS r.2)

set_option maxRecDepth 100000 in
set_option maxHeartbeats 1600000 in
theorem mirrorRule_any (u v : ByteArray) (w : World) (hu : u.size ≤ 1048576) (hv : v.size ≤ 1048576) :
    Calls Tryd.prog 45 #[.agg #[.string u, .string v]] w fun e w' => e = .returned (ruleV (mirR0 (u, v))) ∧ Below w.heap.size w w' := by
  have HU := Lib.hid (fun W => implMirrorWord u W hu)
  have HV := Lib.hid (fun W => implMirrorWord v W hv)
  have He := Lib.hid (show ruleV (mirR0 (u, v)) = .agg #[.string (mirS u), .string (mirS v)] from rfl)
  generalize mirS u = a at *
  generalize mirS v = b at *
  go_enter Tryd.func45, Tryd.ntmps45
  go_wp2_with fail
  have X1 := (((Blk.new1 w #[.string u, .string v] 26).alloc (.cells #[.string ⟨#[]⟩, .string ⟨#[]⟩] 26))).two
  have X2 := (Blk.new2 w (.cells #[.string u, .string v] 26) #[.string ⟨#[]⟩, .string ⟨#[]⟩] 26).two
  have F1 : FourC ((w.alloc (.cells #[.string u, .string v] 26)).alloc (.cells #[.string ⟨#[]⟩, .string ⟨#[]⟩] 26)) w.heap.size (w.heap.size + 1) (.string u) (.string v) (.string ⟨#[]⟩) (.string ⟨#[]⟩) :=
    ⟨⟨X1.1, X1.2.1⟩, ⟨X2.1, X2.2.1⟩, ⟨X2.2.2.1, X2.2.2.2.1⟩, X1.2.2.2.2, X2.2.2.2.2⟩
  have b1 := bel2 w (.cells #[.string u, .string v] 26) (.cells #[.string ⟨#[]⟩, .string ⟨#[]⟩] 26)
  clear X1 X2
  generalize (w.alloc (.cells #[.string u, .string v] 26)).alloc (.cells #[.string ⟨#[]⟩, .string ⟨#[]⟩] 26) = w1 at *
  have F1d : FourC w1.drew w.heap.size (w.heap.size + 1) (.string u) (.string v) (.string ⟨#[]⟩) (.string ⟨#[]⟩) := F1
  have ⟨⟨c0, c1⟩, ⟨d0, d1⟩, ⟨f0, f1⟩, l0, l1⟩ := F1
  have b1d := b1.drew
  go_region_with ((go_at_call 60; first | (refine (HU.out _).mono ?_; rintro e w3 ⟨rfl, hb3⟩; have F3 := FourC.below (by assumption) hb3; have b3 := Below.trans (by assumption : Below w.heap.size w _) (hb3.mono (by first | exact b1d.size | exact Below.size (by assumption : Below w.heap.size w _))); obtain ⟨⟨c0, c1⟩, ⟨d0, d1⟩, ⟨f0, f1⟩, l0, l1⟩ := id F3) | (refine (HV.out _).mono ?_; rintro e w4 ⟨rfl, hb4⟩; have F4 := FourC.below (by assumption) hb4; have b4 := Below.trans (by assumption : Below w.heap.size w _) (hb4.mono (by first | exact b1d.size | exact Below.size (by assumption : Below w.heap.size w _))); obtain ⟨⟨c0, c1⟩, ⟨d0, d1⟩, ⟨f0, f1⟩, l0, l1⟩ := id F4)))
  all_goals go_wp2_with fail
  all_goals refine bodyPost_ret (v := .agg #[.string a, .string b]) (by simp [results, Tryd.results45, go_sem, *]) rfl ⟨by rw [He.out], ?_⟩
  all_goals exact (b4.setCell (by simp) _).setCell (by simp) _

/-- A rule's mirror, turned to be ordered. -/
def mirR (k : Int) (r : R) : R := orientOf k (mirR0 r)
def mirL (k : Int) (l : List R) : List R := l.map (mirR k)
theorem mirL_step (k : Int) (l : List R) (j : Nat) (r : R) (h : l[j]? = some r) : rulesC (mirL k (l.take j)) ++ [Value.string (mirR k r).1, .string (mirR k r).2] = rulesC (mirL k (l.take (j + 1))) := by
  have hk := (List.getElem?_eq_some_iff.1 h).1
  have he := (List.getElem?_eq_some_iff.1 h).2
  rw [List.take_succ_eq_append_getElem hk, he]
  unfold mirL
  rw [List.map_append, rulesC_append]; rfl
theorem mirS_size (s : ByteArray) : (mirS s).size = s.size := by
  show (s.data.toList.reverse).toArray.size = _
  simp

theorem held3_keep {W W1 w : World} {g g' o q q' B : Nat} {a b c : Value} (h : W.cell? ⟨g, o, none⟩ = some a ∧ W.cell? ⟨g', q, none⟩ = some b ∧ W.cell? ⟨g', q', none⟩ = some c ∧ Below B w W) (hb : Below W.heap.size W W1) (hB : B ≤ w.heap.size) (hg : g < w.heap.size) (hg' : g' < w.heap.size) :
    W1.cell? ⟨g, o, none⟩ = some a ∧ W1.cell? ⟨g', q, none⟩ = some b ∧ W1.cell? ⟨g', q', none⟩ = some c ∧ Below B w W1 := by
  obtain ⟨h1, h2, h3, h4⟩ := h
  have hs := h4.size
  exact ⟨(hb.cell (by show g < _; omega)).trans h1, (hb.cell (by show g' < _; omega)).trans h2, (hb.cell (by show g' < _; omega)).trans h3, h4.trans (hb.mono (by omega))⟩
theorem held3_alloc {W w : World} {g g' o q q' : Nat} {a b c : Value} (h : W.cell? ⟨g, o, none⟩ = some a ∧ W.cell? ⟨g', q, none⟩ = some b ∧ W.cell? ⟨g', q', none⟩ = some c ∧ Below w.heap.size w W) (hg : g < w.heap.size) (hg' : g' < w.heap.size) (ob : Obj) :
    (W.alloc ob).cell? ⟨g, o, none⟩ = some a ∧ (W.alloc ob).cell? ⟨g', q, none⟩ = some b ∧ (W.alloc ob).cell? ⟨g', q', none⟩ = some c ∧ Below w.heap.size w (W.alloc ob) :=
  held3_keep h (bel1 W ob) (Nat.le_refl _) hg hg'
theorem held3_allocd {W w : World} {g g' o q q' : Nat} {a b c : Value} (h : W.drew.cell? ⟨g, o, none⟩ = some a ∧ W.drew.cell? ⟨g', q, none⟩ = some b ∧ W.drew.cell? ⟨g', q', none⟩ = some c ∧ Below w.heap.size w W.drew) (hg : g < w.heap.size) (hg' : g' < w.heap.size) (ob : Obj) :
    (W.alloc ob).drew.cell? ⟨g, o, none⟩ = some a ∧ (W.alloc ob).drew.cell? ⟨g', q, none⟩ = some b ∧ (W.alloc ob).drew.cell? ⟨g', q', none⟩ = some c ∧ Below w.heap.size w (W.alloc ob).drew := by
  have h4 : Below w.heap.size w W := ⟨h.2.2.2.os, h.2.2.2.tape, h.2.2.2.output, h.2.2.2.size, h.2.2.2.block⟩
  have k := held3_alloc (W := W) ⟨h.1, h.2.1, h.2.2.1, h4⟩ hg hg' ob
  exact ⟨k.1, k.2.1, k.2.2.1, k.2.2.2.drew⟩
theorem held3_set2 {W w : World} {g g' o q q' d : Nat} {a b c : Value} (h : W.cell? ⟨g, o, none⟩ = some a ∧ W.cell? ⟨g', q, none⟩ = some b ∧ W.cell? ⟨g', q', none⟩ = some c ∧ Below w.heap.size w W) (hd : w.heap.size ≤ d) (hg : g < w.heap.size) (hg' : g' < w.heap.size) (x y : Value) :
    ((W.setCell ⟨d, 0, none⟩ x).setCell ⟨d, 1, none⟩ y).cell? ⟨g, o, none⟩ = some a ∧ ((W.setCell ⟨d, 0, none⟩ x).setCell ⟨d, 1, none⟩ y).cell? ⟨g', q, none⟩ = some b ∧ ((W.setCell ⟨d, 0, none⟩ x).setCell ⟨d, 1, none⟩ y).cell? ⟨g', q', none⟩ = some c ∧ Below w.heap.size w ((W.setCell ⟨d, 0, none⟩ x).setCell ⟨d, 1, none⟩ y) := by
  obtain ⟨h1, h2, h3, h4⟩ := h
  have ne : ∀ (i e r : Nat), i < w.heap.size → (⟨d, r, none⟩ : Addr) ≠ ⟨i, e, none⟩ := fun i e r hi he => by injection he with h _; omega
  refine ⟨?_, ?_, ?_, (h4.setCell (p := ⟨d, 0, none⟩) hd x).setCell (p := ⟨d, 1, none⟩) hd y⟩
  · rw [World.cell?_setCell_other _ _ _ _ (ne _ _ _ hg), World.cell?_setCell_other _ _ _ _ (ne _ _ _ hg), h1]
  · rw [World.cell?_setCell_other _ _ _ _ (ne _ _ _ hg'), World.cell?_setCell_other _ _ _ _ (ne _ _ _ hg'), h2]
  · rw [World.cell?_setCell_other _ _ _ _ (ne _ _ _ hg'), World.cell?_setCell_other _ _ _ _ (ne _ _ _ hg'), h3]
theorem new_kept1 {w2 w3 : World} {t : TypeId} {cs : Array Value} (hb : Below (w2.alloc (.cells cs t)).drew.heap.size (w2.alloc (.cells cs t)).drew w3) : Blk w3 w2.heap.size t cs :=
  Blk.below (Blk.drewN (Blk.new1 w2 cs t) 1) hb (by show _ < (w2.alloc _).heap.size; simp)
theorem new_kept0 {w2 w3 : World} {t : TypeId} {cs : Array Value} (hb : Below (w2.alloc (.cells cs t)).heap.size (w2.alloc (.cells cs t)) w3) : Blk w3 w2.heap.size t cs :=
  Blk.below (Blk.new1 w2 cs t) hb (by simp)
theorem Blk.set2 {W : World} {d : Nat} {t : TypeId} {p q : Value} (h : Blk W d t #[p, q]) (x y : Value) : Blk ((W.setCell ⟨d, 0, none⟩ x).setCell ⟨d, 1, none⟩ y) d t #[x, y] := Blk.set_ (Blk.set_ h 0 x) 1 y
set_option maxRecDepth 100000 in
set_option maxHeartbeats 3200000 in
theorem implMirrorSystem (k : Int) (A : Option Addr) (n c B : Nat) (l : List R) (w : World) (h : Own B w (.slice A n c) 2 n (rulesC l)) (hsm : smallR l) (hn : n ≤ 1048576) (hlet : Let w) :
    Calls Tryd.prog 26 #[.agg #[.int .i64 k, .slice A n c]] w fun e w' =>
      (systemOk k l = false ∧ e = .returned (.tuple #[.agg #[.int .i64 0, .slice none 0 0], .bool false]) ∧ Below w.heap.size w w') ∨
      (systemOk k l = true ∧ ∃ v, e = .returned (.tuple #[.agg #[.int .i64 k, v], .bool true]) ∧ Own w.heap.size w' v 2 n (rulesC (mirL k l)) ∧ Below w.heap.size w w') := by
  obtain ⟨i0, hi, hz0, hz1, hz2⟩ := infoR_parts infoRule
  have hmax := h.bound
  have hlen := h.rlen
  unfold maxLen at hmax
  have HL := Lib.hid (fun (w' : World) (hb : Below w.heap.size w w') => hlet.keep hb (Nat.le_refl _))
  have HO := Lib.hid h
  have Hlen := Lib.hid hlen
  have Hsm := Lib.hid hsm
  clear h hlen hlet hsm
  go_enter Tryd.func26, Tryd.ntmps26
  go_wp2_with fail
  refine (implSystemOk k _ _ _ B l _ (HO.out.below (bel2 _ _ _)) Hsm.out (HL.out _ (bel2 _ _ _))).mono ?_
  rintro e w1 ⟨rfl, hb1⟩
  have HB1 := Lib.hid (((Blk.new1 w _ _).alloc _).below hb1 (by simp; omega))
  have HR1 := Lib.hid ((Blk.new2 w _ _ _).below hb1 (by simp))
  have b1 := (bel2 w _ _).trans (hb1.mono (by simp; omega))
  clear hb1
  obtain ⟨q0, q1, -, -, ql⟩ := HB1.out.two
  obtain ⟨r0, r1, f0, f1, rl⟩ := HR1.out.two
  cases h1 : systemOk k l
  · have He := Lib.hid (show systemOk k l = false from h1)
    clear h1
    go_wp2_with fail
    refine bodyPost_ret (v := .tuple #[.agg #[.int .i64 0, .slice none 0 0], .bool false]) (by simp [results, Tryd.results26, go_sem, *]) rfl (Or.inl ⟨by first | rfl | exact He.out, rfl, ?_⟩)
    exact (b1.setCell (by simp) _).setCell (by simp) _
  clear r0 r1 f0 f1
  go_wp2_with fail
  go_loopw [4, 16] (fun v i wr => ∃ j : Nat, j ≤ n ∧ i = .int .i64 j ∧ Hid (wr.ownsRow (w.heap.size + 2) 26 2 v j (rulesC (mirL k (l.take j)))) ∧ Hid (Blk wr w.heap.size 36 #[.int .i64 k, .slice A n c]) ∧ Hid (Blk wr (w.heap.size + 1) 36 #[.int .i64 0, .slice none 0 0]) ∧ Below w.heap.size w wr) (fun _ i _ => n - (intOf i).toNat)
  case atStart => exact ⟨0, Nat.zero_le _, rfl, World.ownsRow_nil _ _ _ _, HB1, HR1, b1⟩
  case round =>
    obtain ⟨j, hj, rfl, HW, HB, HR, hb⟩ := hrel
    have hbs := hb.size
    by_cases hlt : j < n
    · obtain ⟨g, off, c0, hv⟩ := HO.out.formR (by omega)
      obtain ⟨rfl, rfl⟩ : A = some ⟨g, off, none⟩ ∧ c = c0 := by injection hv with a _ b; exact ⟨a, b⟩
      clear hv q0 q1 ql
      obtain ⟨-, hgl, ⟨u, v⟩, hr, x0, x1, -, -⟩ := (HO.out.below hb).rule hlt
      obtain ⟨q0, q1, -, -, ql⟩ := HB.out.two
      have Hr := Lib.hid hr
      have hsz := Hsm.out _ (List.mem_of_getElem? hr)
      have Hu := Lib.hid hsz.1
      have Hv := Lib.hid hsz.2
      clear hr hsz
      go_wp2_with fail
      obtain ⟨z0, z1, -, -, zl⟩ := (Blk.new1 wr #[.string u, .string v] 26).two
      have t0 := ((HB.out.alloc (.cells #[.string u, .string v] 26)).two).1
      have tl := ((HB.out.alloc (.cells #[.string u, .string v] 26)).two).2.2.2.2
      have b2 := hb.alloc hbs (.cells #[.string u, .string v] 26)
      have HB2 := Lib.hid (HB.out.alloc (.cells #[.string u, .string v] 26))
      have HR2 := Lib.hid (HR.out.alloc (.cells #[.string u, .string v] 26))
      have HW2 := Lib.hid (HW.out.alloc (.cells #[.string u, .string v] 26))
      have hsu : (mirS u).size ≤ 1048576 := by rw [mirS_size]; exact Hu.out
      have hsv : (mirS v).size ≤ 1048576 := by rw [mirS_size]; exact Hv.out
      have HM := Lib.hid (fun W => mirrorRule_any u v W Hu.out Hv.out)
      have HOr := Lib.hid (fun W hL => implOrientRule k (mirS u) (mirS v) W hsu hsv hL)
      have Hst := Lib.hid (mirL_step k l j _ Hr.out)
      have e1 : mirR k (u, v) = orientOf k (mirS u, mirS v) := rfl
      have e2 : ruleV (mirR0 (u, v)) = .agg #[.string (mirS u), .string (mirS v)] := rfl
      rw [e1] at Hst
      rw [e2] at HM
      generalize mirS u = p at *
      generalize mirS v = q at *
      generalize orientOf k (p, q) = oo at *
      generalize canOrient k (p, q) = cc at *
      obtain ⟨oa, ob⟩ := oo
      clear e1 e2 hsu hsv x0 x1 q0 q1 ql hb HB HR HW
      generalize wr.alloc (.cells #[.string u, .string v] 26) = w2 at *
      have hw2s := b2.size
      have K0 : w2.drew.cell? ⟨w.heap.size, 0, none⟩ = some (.int .i64 k) ∧ w2.drew.cell? ⟨wr.heap.size, 0, none⟩ = some (.string u) ∧ w2.drew.cell? ⟨wr.heap.size, 1, none⟩ = some (.string v) ∧ Below w2.heap.size w2 w2.drew := ⟨t0, z0, z1, (Below.refl _ w2).drew⟩
      have K0a := fun o => held3_allocd K0 tl zl o
      go_cut [7, 8, 16] from 16 to 32 (fun s7 _ s16 wx => ∃ d, s7 = .pointer (some ⟨d, 0, none⟩) ∧ s16 = .int .i64 j ∧ wx.cell? ⟨d, 0, none⟩ = some (.string oa) ∧ wx.cell? ⟨d, 1, none⟩ = some (.string ob) ∧ Hid (Below w2.heap.size w2 wx))
      case first =>
        go_region_held3 (fun w' => w'.cell? ⟨w.heap.size, 0, none⟩ = some (.int .i64 k) ∧ w'.cell? ⟨wr.heap.size, 0, none⟩ = some (.string u) ∧ w'.cell? ⟨wr.heap.size, 1, none⟩ = some (.string v) ∧ Below w2.heap.size w2 w')
          (first | exact K0 | exact K0a _ | exact S4 | exact held3_alloc S4 tl zl _ | exact held3_set2 S4 (Nat.le_refl _) tl zl _ _ | exact held3_set2 S4 S3.2.2.2.size tl zl _ _ | exact S3 | exact held3_alloc S3 tl zl _)
          ((first
            | (go_at_call 45; refine (HM.out _).mono ?_; rintro e w3 ⟨rfl, hb3⟩; (first | have S3 := held3_keep K0 hb3 (Nat.le_refl _) tl zl | have S3 := held3_keep (K0a _) hb3 (Nat.le_refl _) tl zl); (first | (have D3 := new_kept1 hb3; obtain ⟨y0, y1, g0, g1, yl⟩ := id D3.two) | skip))
            | (go_at_call 23; refine (HOr.out _ (HL.out _ ?_)).mono ?_; (first | exact b2.trans (S3.2.2.2.mono hw2s) | exact (b2.trans (S3.2.2.2.mono hw2s)).alloc (b2.trans (S3.2.2.2.mono hw2s)).size _); rintro e w4 ⟨rfl, hb4⟩; (first | have S4 := held3_keep S3 hb4 (Nat.le_refl _) tl zl | have S4 := held3_keep (held3_alloc S3 tl zl _) hb4 (Nat.le_refl _) tl zl); (first | (have D4 := new_kept0 hb4; obtain ⟨x0, x1, e0, e1, xl⟩ := id D4.two) | (have D4 := Blk.below D3 hb4 D3.lt; obtain ⟨x0, x1, e0, e1, xl⟩ := id D4.two) | skip))))
        all_goals go_wp2_with fail
        all_goals go_meet
        · exact ⟨_, rfl, rfl, (Blk.new1 w4 _ _).cell 0, (Blk.new1 w4 _ _).cell 1, S4.2.2.2.alloc S4.2.2.2.size _⟩
        · exact ⟨_, rfl, rfl, (D4.set2 _ _).cell 0, (D4.set2 _ _).cell 1, (held3_set2 S4 S3.2.2.2.size tl zl _ _).2.2.2⟩
        · exact ⟨_, rfl, rfl, (D4.set2 _ _).cell 0, (D4.set2 _ _).cell 1, (held3_set2 S4 (Nat.le_refl _) tl zl _ _).2.2.2⟩
      case rest =>
        obtain ⟨d, rfl, rfl, d0, d1, B5⟩ := hcut
        have b5 := b2.trans (B5.out.mono hw2s)
        have HB5 := Lib.hid (HB2.out.below B5.out HB2.out.lt)
        have HR5 := Lib.hid (HR2.out.below B5.out HR2.out.lt)
        have HW5 := Lib.hid (ownsRow_below HW2.out B5.out)
        have hbs5 := b5.size
        have hR5 := HR5.out.lt
        clear HB2 HR2 HW2 t0 z0 z1 tl zl K0 K0a hw2s
        go_wp2_with (at_builtin; refine wpList_append_own _ rfl _ _ 34 rfl (w.heap.size + 2) 26 i0 (.agg #[.string ⟨#[]⟩, .string ⟨#[]⟩]) 2 32 Tryd.underlying34 hi hz0 hz1 hz2 rfl (by decide) _ _ _ rfl (HW5.out.alloc _) ⟨wc.heap.size, 0, none⟩ 1 1 [.string oa, .string ob] rfl rfl ?c1 ?c2 ?c3 ?c4 ?c5 ?_)
        case c2 => exact ⟨rfl, rfl⟩
        case c3 => unfold maxLen; omega
        case c4 => omega
        case c5 => omega
        intro v' w6 hown' hgrow _
        have hown2 : w6.ownsRow (w.heap.size + 2) 26 2 v' (j + 1) (rulesC (mirL k (l.take (j + 1)))) := by rw [← Hst.out]; exact hown'
        have hgb : ∀ d, d < w.heap.size + 2 → w6.heap[d]? = wc.heap[d]? := fun d hd => grown_block HW5.out hgrow hd (by omega)
        have HB6 : Hid (Blk w6 w.heap.size 36 #[.int .i64 k, .slice (some ⟨g, off, none⟩) n c]) := (hgb _ (by omega)).trans HB5.out
        have HR6 : Hid (Blk w6 (w.heap.size + 1) 36 #[.int .i64 0, .slice none 0 0]) := (hgb _ (by omega)).trans HR5.out
        have b6 : Below w.heap.size w w6 := grown_one HW5.out hgrow b5 (by omega) (by omega)
        have HW6 := Lib.hid hown2
        clear hown' hown2 hgrow hgb d0 d1 HB5 HR5 HW5
        go_wp2_with fail
        go_roundw
        case rel => exact ⟨j + 1, by omega, by go_num, HW6, HB6, HR6, b6⟩
        case measure => simp [intOf]; omega
    · obtain rfl : j = n := by omega
      have ho := HW.out
      rw [List.take_of_length_le (by rw [Hlen.out]; exact Nat.le_refl _)] at ho
      have HO9 := Lib.hid (Own.of_row ho)
      obtain ⟨A9, c9, rfl⟩ := HO9.out.form
      obtain ⟨q0, q1, -, -, ql⟩ := HB.out.two
      obtain ⟨r0, r1, f0, f1, rl⟩ := HR.out.two
      clear ho HW
      go_wp2_with fail
      refine bodyPost_ret (v := .tuple #[.agg #[.int .i64 k, .slice A9 j c9], .bool true]) (by simp [results, Tryd.results26, go_sem, *]) rfl (Or.inr ⟨by first | rfl | exact h1, _, rfl, ?_, ?_⟩)
      · exact ((HO9.out.far (by simp) _).far (by simp) _).mono (by omega)
      · refine Below.setCell (Below.setCell hb ?_ _) ?_ _ <;> simp
end Go.Proofs.YtpmghdecfpfahaaDoor
