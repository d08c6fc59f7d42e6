/- The program's meanings of words: functions over a monoid. -/
import Derived.Test.YtlgaihofaiigcaaDoorMeanPlain
import Derived.Test.YtlgaihofaiigcaaDoorGroupAt
import Derived.Deep.RegionHeld3
namespace Go.Proofs.YtlgaihofaiigcaaDoor
open Go.RowKit

abbrev meanF (bm b : Nat) : Value := .func (.func 81) #[] #[.pointer (some ⟨bm, 0, none⟩), .pointer (some ⟨b, 0, none⟩)]
def meanFs (bm : Nat) (bs : List Nat) : List Value := bs.map (meanF bm)
theorem meanFs_length (bm : Nat) (bs : List Nat) : (meanFs bm bs).length = bs.length := by simp [meanFs]
theorem meanFs_snoc (bm : Nat) (bs : List Nat) (b : Nat) : meanFs bm (bs ++ [b]) = meanFs bm bs ++ [meanF bm b] := by simp [meanFs]
theorem Own.natI {w : World} {D m d : Nat} {E : Option Addr} {G : List Nat} (h : Own D w (.slice E m d) 1 m (ints (nints G))) {k x : Nat} (hk : G[k]? = some x) :
    ∃ g off, E = some ⟨g, off, none⟩ ∧ k < m ∧ w.cell? ⟨g, off + k, none⟩ = some (.int .i64 (x : Nat)) := by
  have hl := h.ilen
  rw [nints_length] at hl
  have hlt : k < m := by have := (List.getElem?_eq_some_iff.1 hk).1; omega
  obtain ⟨g, off, c0, hv⟩ := h.formR (by omega)
  obtain ⟨rfl, rfl⟩ : E = some ⟨g, off, none⟩ ∧ d = c0 := by injection hv with a _ b; exact ⟨a, b⟩
  obtain ⟨s, hs, hx⟩ := h.iget hlt
  rw [nints_get hk] at hs
  obtain rfl := Option.some.inj hs
  exact ⟨g, off, rfl, hlt, hx⟩
theorem row_apartM {w : World} {base : Nat} {e t : TypeId} {size : Nat} {v : Value} {k b : Nat} {xs : List Value} {cs : Array Value} (h : w.ownsRow base e size v k xs) (hb : Blk w b t cs) (ht : t ≠ e) : v.ownBlock ≠ some b := by
  rcases h.2 with ⟨rfl, _⟩ | ⟨g, cap, cur, rfl, hg, hh, r⟩
  · simp [Value.ownBlock]
  · intro hv
    simp only [Value.ownBlock, Option.some.injEq] at hv
    subst hv
    unfold Blk at hb
    rw [hb] at hh
    simp only [Option.some.injEq, Obj.cells.injEq] at hh
    exact ht hh.2.1
theorem grown_keepM {w w' : World} {o : Obj} {b : Nat} {r : Option Nat} (hg : (w.alloc o).grownBy w' r) (hlt : b < w.heap.size) (hn : r ≠ some b) : w'.heap[b]? = w.heap[b]? := by
  rw [hg.block b (by simp; omega) hn.symm, Below.heap_alloc _ _ _ hlt]
/-- What the functions in bs stand on: the monoid at g behind the box bm, and a box for each image. -/
structure FnsAt (w : World) (bm g N : Nat) (xs : List Int) (I bs : List Nat) : Prop where
  mon : MonAt w g N xs
  ptr : Blk w bm 71 #[.pointer (some ⟨g, 0, none⟩)]
  len : bs.length = I.length
  box : ∀ j b i : Nat, bs[j]? = some b → I[j]? = some i → Blk w b 3 #[.int .i64 (i : Int)]
theorem FnsAt.below {w w' : World} {bm g N : Nat} {xs : List Int} {I bs : List Nat} (h : FnsAt w bm g N xs I bs) (hb : Below w.heap.size w w') : FnsAt w' bm g N xs I bs :=
  ⟨h.mon.below hb, h.ptr.below hb h.ptr.lt, h.len, fun j b i h1 h2 => (h.box j b i h1 h2).below hb (h.box j b i h1 h2).lt⟩
theorem FnsAt.drewN {w : World} {bm g N : Nat} {xs : List Int} {I bs : List Nat} (h : FnsAt w bm g N xs I bs) (m : Nat) : FnsAt (w.drewN m) bm g N xs I bs := h.below (below_drewN (Below.refl _ _) m)
/-- A slice of the functions of I. -/
def Means (B : Nat) (w : World) (v : Value) (g N : Nat) (xs : List Int) (I : List Nat) : Prop := ∃ bm bs, FnsAt w bm g N xs I bs ∧ Own B w v 1 I.length (meanFs bm bs)
theorem Means.below {B : Nat} {w w' : World} {v : Value} {g N : Nat} {xs : List Int} {I : List Nat} (h : Means B w v g N xs I) (hb : Below w.heap.size w w') : Means B w' v g N xs I := by
  obtain ⟨bm, bs, h1, h2⟩ := h
  exact ⟨bm, bs, h1.below hb, h2.below hb⟩
theorem Means.form {B : Nat} {w : World} {v : Value} {g N : Nat} {xs : List Int} {I : List Nat} (h : Means B w v g N xs I) : ∃ A c, v = .slice A I.length c := by obtain ⟨bm, bs, h1, h2⟩ := h; exact h2.form
theorem Means.mono {B B' : Nat} {w : World} {v : Value} {g N : Nat} {xs : List Int} {I : List Nat} (h : Means B w v g N xs I) (hB : B' ≤ B) : Means B' w v g N xs I := by obtain ⟨bm, bs, h1, h2⟩ := h; exact ⟨bm, bs, h1, h2.mono hB⟩
/-- The function of place j. -/
theorem Means.at_ {B : Nat} {w : World} {A : Option Addr} {c m g N : Nat} {xs : List Int} {I : List Nat} (h : Means B w (.slice A m c) g N xs I) {j i : Nat} (hj : I[j]? = some i) :
    ∃ q off bm b, A = some ⟨q, off, none⟩ ∧ m = I.length ∧ j < m ∧ w.cell? ⟨q, off + j, none⟩ = some (meanF bm b) ∧ MonAt w g N xs ∧ Blk w bm 71 #[.pointer (some ⟨g, 0, none⟩)] ∧ Blk w b 3 #[.int .i64 (i : Int)] := by
  obtain ⟨bm, bs, h1, h2⟩ := h
  have hjl : j < I.length := (List.getElem?_eq_some_iff.1 hj).1
  obtain ⟨b, hb⟩ : ∃ b, bs[j]? = some b := ⟨bs[j]'(by rw [h1.len]; exact hjl), List.getElem?_eq_getElem _⟩
  obtain ⟨A', c', hv⟩ := h2.form
  obtain ⟨q, off, c0, hv⟩ := h2.formR (by omega)
  injection hv with e1 e2 e3
  subst e1 e2 e3
  have hc := (h2.cellAt (by omega) (i := j) (by rw [meanFs_length, h1.len]; exact hjl)).1
  refine ⟨q, off, bm, b, rfl, rfl, hjl, ?_, h1.mon, h1.ptr, h1.box j b i hb hj⟩
  rw [hc]; simp [meanFs, hb]
set_option maxRecDepth 100000 in
set_option maxHeartbeats 400000 in
theorem meanF_any (bm b g N v i : Nat) (xs : List Int) (w : World) (hM : MonAt w g N xs) (hP : Blk w bm 71 #[.pointer (some ⟨g, 0, none⟩)]) (hB : Blk w b 3 #[.int .i64 (i : Int)]) (hT : TabOk N xs) (hv : v < N) (hi : i < N) :
    Calls Tryd.prog 81 #[.int .i64 (v : Int), .pointer (some ⟨bm, 0, none⟩), .pointer (some ⟨b, 0, none⟩)] w fun e w' => e = .returned (.int .i64 (tmul N xs v i : Nat)) ∧ ∃ m, w' = w.drewN m := by
  have h40 := hT.hi
  have x0 := hP.cell 0
  have x1 := hB.cell 0
  have x2 := hM.num hT.rng hv hi
  simp only [List.getElem?_toArray, List.getElem?_cons_zero] at x0 x1
  have x3 := hM.size
  clear hM hP hB hT
  go_enter Tryd.func81, Tryd.ntmps81
  go_wp2_with fail
  go_quiet (fail)
  all_goals go_wp2_with fail
  go_ret
  exact ⟨rfl, _, rfl⟩
set_option maxHeartbeats 400000 in
theorem letterNumber_any (k : Nat) (w : World) (hk : k < 4) :
    Calls Tryd.prog 65 #[.int .u8 (97 + (k : Int))] w fun e w' => e = .returned (.int .i64 (k : Int)) ∧ w = w' := by
  go_enter Tryd.func65, Tryd.ntmps65
  go_wp2_with fail
  go_ret
  exact ⟨ret_i64 (by omega), rfl⟩
theorem infoFn : (Tryd.prog.info? 94).map (fun i => (i.zero, i.size, i.bytes)) = some (some .nilFunc, 1, 8) := by kernel_rfl
set_option maxRecDepth 100000 in
set_option maxHeartbeats 1600000 in
theorem meaningOf_any (g N : Nat) (E : Option Addr) (m d D : Nat) (xs : List Int) (I : List Nat) (w : World) (hM : MonAt w g N xs) (hE : Own D w (.slice E m d) 1 m (ints (nints I))) (hm4 : m ≤ 4) :
    Calls Tryd.prog 63 #[.pointer (some ⟨g, 0, none⟩), .slice E m d] w fun e w' => ∃ v, e = .returned v ∧ Means w.heap.size w' v g N xs I ∧ Below w.heap.size w w' := by
  obtain ⟨i0, hi0, hz0, hz1, hz2⟩ := infoR_parts infoFn
  have Hml := Lib.hid (show m = I.length by have := hE.ilen; rw [nints_length] at this; omega)
  have HE := Lib.hid (fun (w' : World) (hb : Below w.heap.size w w') => hE.below hb)
  have HM := Lib.hid (fun (w' : World) (hb : Below w.heap.size w w') => hM.below hb)
  clear hM hE
  go_enter Tryd.func63, Tryd.ntmps63
  go_wp2_with fail
  have hb0 := bel1 w (.cells #[.pointer (some ⟨g, 0, none⟩)] 71)
  have HP := Lib.hid (Blk.new1 w #[.pointer (some ⟨g, 0, none⟩)] 71)
  have hs0 : (w.alloc (.cells #[.pointer (some ⟨g, 0, none⟩)] 71)).heap.size = w.heap.size + 1 := by simp
  generalize w.alloc (.cells #[.pointer (some ⟨g, 0, none⟩)] 71) = wn at *
  go_loopw [5, 10] (fun v i' wr => ∃ (k : Nat) (bs : List Nat), i' = .int .i64 k ∧ k ≤ m ∧ Hid (wr.ownsRow w.heap.size 94 1 v k (meanFs w.heap.size bs)) ∧ Hid (FnsAt wr w.heap.size g N xs (I.take k) bs) ∧ Below w.heap.size w wr) (fun _ i' _ => m - (intOf i').toNat)
  case atStart =>
    refine ⟨0, [], rfl, Nat.zero_le _, World.ownsRow_nil _ _ _ _, ⟨HM.out _ hb0, HP.out, rfl, fun j b i h => ?_⟩, hb0⟩
    simp at h
  case round =>
    obtain ⟨k, bs, rfl, hk, HR, HF, hb⟩ := hrel
    have hbs := hb.size
    by_cases hkl : k < m
    · obtain ⟨i, hi⟩ : ∃ i, I[k]? = some i := ⟨I[k]'(by have := Hml.out; omega), List.getElem?_eq_getElem _⟩
      obtain ⟨q, off, rfl, -, hx⟩ := (HE.out _ hb).natI hi
      have Hi := Lib.hid hi
      have hbl := (HF.out.ptr).lt
      clear hi
      have HB6 := Lib.hid (Blk.new1 wr #[.int .i64 (i : Int)] 3)
      have HR6 := Lib.hid (HR.out.alloc (.cells #[.int .i64 (i : Int)] 3))
      have HF6 := Lib.hid (HF.out.below (bel1 wr (.cells #[.int .i64 (i : Int)] 3)))
      have hb6 := hb.alloc hbs (.cells #[.int .i64 (i : Int)] 3)
      have hl6 : (wr.alloc (.cells #[.int .i64 (i : Int)] 3)).heap.size = wr.heap.size + 1 := by simp
      go_wp2_with (at_builtin; refine wpList_append_own _ rfl _ _ 61 rfl w.heap.size 94 i0 .nilFunc 1 8 Tryd.underlying61 hi0 hz0 hz1 hz2 rfl (by decide) _ _ _ rfl (HR6.out.alloc _) ⟨wr.heap.size + 1, 0, none⟩ 1 1 [meanF w.heap.size wr.heap.size] rfl rfl ?c1 ?c2 ?c3 ?c4 ?c5 ?_)
      case c1 => intro j u hj; match j, hj with | 0, hj => (simp at hj; subst hj; simp [Addr.add])
      case c2 => intro u hu; simp at hu; subst hu; rfl
      case c3 => unfold maxLen; omega
      case c4 => omega
      case c5 => simp; omega
      intro v' w6 hown' hgrow _
      have HF7 : Hid (FnsAt w6 w.heap.size g N xs (I.take (k + 1)) (bs ++ [wr.heap.size])) := by
        have hkeep : ∀ (b : Nat) (t : TypeId) (cs : Array Value), t ≠ 94 → Blk (wr.alloc (.cells #[.int .i64 (i : Int)] 3)) b t cs → Blk w6 b t cs := fun b t cs ht hB =>
          (grown_keepM hgrow hB.lt (row_apartM HR6.out hB ht)).trans hB
        refine ⟨HM.out _ (grown_one HR6.out hgrow hb6 (Nat.le_refl _) (by omega)), hkeep _ _ _ (by decide) HF6.out.ptr, ?_, fun j b i' h1 h2 => ?_⟩
        · rw [List.length_append, HF.out.len, List.length_take, List.length_take, List.length_singleton]; have := Hml.out; omega
        · have hbl2 : bs.length = k := by have h3 := HF.out.len; rw [List.length_take] at h3; have := Hml.out; omega
          by_cases e : j < k
          · rw [List.getElem?_append_left (by omega)] at h1
            rw [List.getElem?_take_of_lt (by omega)] at h2
            exact hkeep _ _ _ (by decide) (HF6.out.box j b i' h1 (by rw [List.getElem?_take_of_lt e]; exact h2))
          · have hj : j = k := by
              have h3 := (List.getElem?_eq_some_iff.1 h1).1
              rw [List.length_append, List.length_singleton] at h3
              omega
            subst hj
            rw [List.getElem?_append_right (by omega), hbl2, Nat.sub_self] at h1
            simp only [List.getElem?_cons_zero, Option.some.injEq] at h1
            rw [List.getElem?_take_of_lt (by omega), Hi.out] at h2
            obtain rfl := Option.some.inj h2
            subst h1
            exact hkeep _ _ _ (by decide) HB6.out
      have hbw6 : Below w.heap.size w w6 := grown_one HR6.out hgrow hb6 (Nat.le_refl _) (by omega)
      have HX6 : Hid (w6.ownsRow w.heap.size 94 1 v' (k + 1) (meanFs w.heap.size (bs ++ [wr.heap.size]))) := by
        show World.ownsRow _ _ _ _ _ _ _
        rw [meanFs_snoc]; exact hown'
      clear hown' hgrow HR6 HF6 HB6 HR HF hb hb6 hl6
      go_wp2_with fail
      go_roundw
      case rel => exact ⟨k + 1, _, by go_num, by omega, HX6, HF7, hbw6⟩
      case measure => simp [intOf]; omega
    · obtain rfl : m = k := by omega
      have HF1 : Hid (FnsAt wr w.heap.size g N xs I bs) := by
        have h1 := HF.out
        rw [List.take_of_length_le (by rw [Hml.out]; exact Nat.le_refl _)] at h1
        exact h1
      have HO : Hid (Own w.heap.size wr u5 1 I.length (meanFs w.heap.size bs)) := by rw [← Hml.out]; exact Own.of_row HR.out
      obtain ⟨A9, c9, rfl⟩ := HO.out.form
      clear HR HF
      go_wp2_with fail
      go_ret
      exact ⟨_, rfl, ⟨_, _, HF1.out, HO.out⟩, hb⟩
set_option maxRecDepth 100000 in
set_option maxHeartbeats 1600000 in
/-- The value of a word with letters that all have a function. -/
theorem meanValue_any (g N B m c : Nat) (A : Option Addr) (xs : List Int) (I : List Nat) (s : ByteArray) (w : World) (h : Means B w (.slice A m c) g N xs I) (hT : TabOk N xs) (hI : ∀ i ∈ I, i < N) (hI4 : I.length ≤ 4) (hs : written I.length s = true) (hs2 : s.size ≤ 1048576) :
    Calls Tryd.prog 39 #[.slice A m c, .string s] w fun e w' => e = .returned (.int .i64 (meanS N xs I s : Nat)) ∧ ∃ m, w' = w.drewN m := by
  have HF := Lib.hid (fun m => h.below (below_drewN (Below.refl _ w) m))
  have HT := Lib.hid hT
  have HI := Lib.hid hI
  have HS := Lib.hid (fun j hj => written_at hs j hj)
  clear h hT hI hs
  go_enter Tryd.func39, Tryd.ntmps39
  go_wp2_with fail
  go_loopw [5, 9] (fun v i' wr => ∃ k q : Nat, k ≤ s.size ∧ i' = .int .i64 k ∧ v = .int .i64 (meanTo N xs I s k : Nat) ∧ wr = w.drewN q) (fun _ i' _ => s.size - (intOf i').toNat)
  case atStart => exact ⟨0, 0, Nat.zero_le _, rfl, rfl, rfl⟩
  case round =>
    obtain ⟨k, q, hk, rfl, rfl, rfl⟩ := hrel
    by_cases hkl : k < s.size
    · have ha := HS.out k hkl
      obtain ⟨j, hj⟩ : ∃ j : Nat, (s[k].toNat : Int) = 97 + j := ⟨s[k].toNat - 97, by unfold among at ha; simp only [Bool.and_eq_true, decide_eq_true_eq] at ha; omega⟩
      have hji := img_at ha hj
      have hj4 : j < 4 := by have := (List.getElem?_eq_some_iff.1 hji).1; omega
      obtain ⟨qb, off, bm, b, rfl, -, hjm, x0, hM, hP, hB⟩ := (HF.out q).at_ hji
      have Hst := Lib.hid (meanTo_step N xs I s k hkl)
      have Hlt := Lib.hid (meanTo_lt HT.out HI.out s k hk)
      have Hil := Lib.hid (img_lt HT.out.lo HI.out s[k])
      generalize meanTo N xs I s k = V at *
      generalize img I s[k] = z at *
      have HM := Lib.hid hM
      have HP := Lib.hid hP
      have HB := Lib.hid hB
      clear hji ha hM hP hB
      go_wp2_with (first | (go_at_call 65; refine (letterNumber_any j _ hj4).mono ?_; rintro e w' ⟨rfl, rfl⟩) | (go_at_call 81; refine (meanF_any bm b g N V z xs _ HM.out HP.out HB.out HT.out Hlt.out Hil.out).mono ?_; rintro e w' ⟨rfl, m', rfl⟩))
      go_roundw
      case rel => exact ⟨k + 1, _, by omega, by go_num, by rw [Hst.out], rfl⟩
      case measure => simp [intOf]; omega
    · obtain rfl : s.size = k := by omega
      have He := Lib.hid (show meanTo N xs I s s.size = meanS N xs I s from rfl)
      generalize meanTo N xs I s s.size = V at *
      go_wp2_with fail
      go_ret
      exact ⟨ret_i64 (by rw [← He.out]), _, rfl⟩
end Go.Proofs.YtlgaihofaiigcaaDoor
