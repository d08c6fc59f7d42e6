/- For every code, the order of the drawn words is total and stays under the same letters on both sides: FnOrders returns true. The table of letters is tied to the program's text. -/
import Derived.Test.YtpgfjcnbgomagaaDoorMakeWord
import Derived.Test.YtpgfjcnbgomagaaDoorOrder
import Derived.Test.YtpgfjcnbgomagaaDoorWorld
namespace Go.Proofs.YtpgfjcnbgomagaaDoor.fnOrders
open Go.Joins Go.ChangeShapes Go.WideShapes Go.ChangeAt Go.RowKit
theorem two (l : List UInt8) (h : l.all (fun c => among 2 c.toNat) = true) : (l.filter fun x => decide ((x.toNat : Int) = 97 + 0)).length + (l.filter fun x => decide ((x.toNat : Int) = 97 + 1)).length = l.length := by
  induction l with
  | nil => rfl
  | cons a l ih =>
    rw [List.all_cons, Bool.and_eq_true] at h
    have h1 := ih h.2
    have h2 := h.1
    simp only [among, Bool.and_eq_true, decide_eq_true_eq] at h2
    rw [List.filter_cons, List.filter_cons, List.length_cons]
    by_cases e : (a.toNat : Int) = 97
    · rw [if_pos (by simp; omega), if_neg (by simp; omega), List.length_cons]; omega
    · rw [if_neg (by simp; omega), if_pos (by simp; omega), List.length_cons]; omega
theorem count_two (s : ByteArray) (h : written 2 s = true) : countOf s 0 + countOf s 1 = s.size := by
  unfold countOf
  rw [if_pos (by omega), if_pos (by omega)]
  unfold countB
  have hl : s.data.toList.length = s.size := by simp
  rw [List.take_of_length_le (by omega), two _ h, hl]
set_option maxHeartbeats 1600000 in
set_option maxRecDepth 100000 in
theorem walk (A : Option Addr) (n c : Nat) (w : World) (h : InB w A n c) (hL : Let w) :
    Calls Tryd.prog 3 #[.slice A n c] w fun e w' => e = .returned (.bool true) ∧ Below w.heap.size w w' := by
  have HL := Lib.hid hL
  have hc : n ≤ maxLen := by have := h.1; have := h.2.1; omega
  unfold maxLen at hc
  clear hL
  by_cases hbig : 1048576 < n
  · go_enter Tryd.func3, Tryd.ntmps3
    go_wp2_with fail
    go_ret
    exact ⟨rfl, Below.refl _ _⟩
  have hn : n ≤ 1048576 := Nat.le_of_not_lt hbig
  have H := Lib.hid h
  clear h
  go_enter Tryd.func3, Tryd.ntmps3
  go_wp2_with fail
  refine (MakeWord_any A n c 0 2 5 _ H.out hn (by omega) (by omega) (by omega) (by omega)).mono ?_
  rintro e w1 ⟨u, rfl, hu, zu, b1⟩
  have HU := Lib.hid hu
  clear hu
  go_wp2_with fail
  refine (MakeWord_any A n c 20 2 5 _ (H.out.keep b1) hn (by omega) (by omega) (by omega) (by omega)).mono ?_
  rintro e w2 ⟨v, rfl, hv, zv, b2⟩
  have HV := Lib.hid hv
  clear hv
  have b02 := b1.trans (b2.mono b1.size)
  go_wp2_with fail
  refine (MakeWord_any A n c 40 2 5 _ (H.out.keep b02) hn (by omega) (by omega) (by omega) (by omega)).mono ?_
  rintro e w3 ⟨z, rfl, -, zz, b3⟩
  have b03 := b02.trans (b3.mono b02.size)
  go_wp2_with fail
  refine (MakeWord_any A n c 60 2 3 _ (H.out.keep b03) hn (by omega) (by omega) (by omega) (by omega)).mono ?_
  rintro e w4 ⟨x, rfl, -, zx, b4⟩
  have b04 := b03.trans (b4.mono b03.size)
  have HL4 := Lib.hid (HL.out.keep b04 (Nat.le_refl _))
  have HM := Lib.hid (fun m => HL4.out.drewN m)
  have huu := lessS_irrefl u
  have hxx := lessS_both x u v z
  have hsz : (u ++ v).size ≤ 10 := by rw [ByteArray.size_append]; omega
  have hwr : written 2 (u ++ v) = true := by rw [written_append, HU.out, HV.out]; rfl
  have hwo : wordOk 2 (u ++ v) = true := by rw [show (2 : Int) = ((2 : Nat) : Int) from rfl, wordOk_yes 2 (u ++ v) (by omega)]; exact hwr
  have hct := count_two (u ++ v) hwr
  rw [ByteArray.size_append] at hct
  have Hsz := Lib.hid (show (u ++ v).size ≤ 1048576 by omega)
  have Hwo := Lib.hid hwo
  obtain ⟨p, hp⟩ : ∃ p : Nat, countOf (u ++ v) 0 = p := ⟨_, rfl⟩
  obtain ⟨q, hq⟩ : ∃ q : Nat, countOf (u ++ v) 1 = q := ⟨_, rfl⟩
  rw [hp, hq] at hct
  have Hp := Lib.hid hp
  have Hq := Lib.hid hq
  clear hp hq hwr hwo hsz
  cases ha : lessS u v
  case true =>
    have hb := lessS_asymm u v ha
    rw [ha] at hxx
    cases hvz : lessS v z
    case true =>
      have huz := lessS_trans u v z ha hvz
      go_wp2_with (first | (go_at_call 8; refine (implIsLess _ _ _).mono ?_; rintro e w' ⟨rfl, rfl⟩) | (go_at_call 9; refine (implWordOk _ _ _ Hsz.out HL4.out).mono ?_; rw [Hwo.out]; rintro e w' ⟨rfl, m, rfl⟩) | (go_at_call 10; refine (implCountLetter _ _ _ Hsz.out (HM.out _)).mono ?_; (first | rw [Hp.out] | rw [Hq.out]); rintro e w' ⟨rfl, m, rfl⟩))
      go_ret
      have he : ((p : Int) + (q : Int) == (u.size : Int) + (v.size : Int)) = true := by rw [beq_iff_eq]; omega
      exact ⟨ret_bool he, below_drewN b04 _⟩
    case false =>
      go_wp2_with (first | (go_at_call 8; refine (implIsLess _ _ _).mono ?_; rintro e w' ⟨rfl, rfl⟩) | (go_at_call 9; refine (implWordOk _ _ _ Hsz.out HL4.out).mono ?_; rw [Hwo.out]; rintro e w' ⟨rfl, m, rfl⟩) | (go_at_call 10; refine (implCountLetter _ _ _ Hsz.out (HM.out _)).mono ?_; (first | rw [Hp.out] | rw [Hq.out]); rintro e w' ⟨rfl, m, rfl⟩))
      go_ret
      have he : ((p : Int) + (q : Int) == (u.size : Int) + (v.size : Int)) = true := by rw [beq_iff_eq]; omega
      exact ⟨ret_bool he, below_drewN b04 _⟩
  case false =>
    rw [ha] at hxx
    cases hb : lessS v u
    case true =>
      go_wp2_with (first | (go_at_call 8; refine (implIsLess _ _ _).mono ?_; rintro e w' ⟨rfl, rfl⟩) | (go_at_call 9; refine (implWordOk _ _ _ Hsz.out HL4.out).mono ?_; rw [Hwo.out]; rintro e w' ⟨rfl, m, rfl⟩) | (go_at_call 10; refine (implCountLetter _ _ _ Hsz.out (HM.out _)).mono ?_; (first | rw [Hp.out] | rw [Hq.out]); rintro e w' ⟨rfl, m, rfl⟩))
      go_ret
      have he : ((p : Int) + (q : Int) == (u.size : Int) + (v.size : Int)) = true := by rw [beq_iff_eq]; omega
      exact ⟨ret_bool he, below_drewN b04 _⟩
    case false =>
      obtain rfl := lessS_total u v ha hb
      go_wp2_with (first | (go_at_call 8; refine (implIsLess _ _ _).mono ?_; rintro e w' ⟨rfl, rfl⟩) | (go_at_call 9; refine (implWordOk _ _ _ Hsz.out HL4.out).mono ?_; rw [Hwo.out]; rintro e w' ⟨rfl, m, rfl⟩) | (go_at_call 10; refine (implCountLetter _ _ _ Hsz.out (HM.out _)).mono ?_; (first | rw [Hp.out] | rw [Hq.out]); rintro e w' ⟨rfl, m, rfl⟩))
      go_ret
      have he : ((p : Int) + (q : Int) == (u.size : Int) + (u.size : Int)) = true := by rw [beq_iff_eq]; omega
      exact ⟨ret_bool he, below_drewN b04 _⟩
theorem contract (H : Type) (enc : TypeId × Value → H) (W : World) (base : Nat) (args : Array Value) (ds gs : List (DataW H)) (before : List MemPlace)
    (hval : ∀ (j : Nat) t v, Tryd.f3.params[j]? = some t → args[j]? = some v → Value.okWide Tryd.prog W .any base t v)
    (hW : DataW.Whole enc Tryd.prog Tryd.f3.params.toList Rows.fnOrdersSpec.vars false W args.toList ds gs before) (hL : laidMetH Tryd.prog Rows.fnOrdersRow.laid W) :
    Calls Tryd.prog 3 args W fun e W' => ∃ v, e = .returned v ∧ Rows.fnOrdersSpec.post enc Tryd.prog Tryd.f3 false true false false W args v W' := by
  have hW' := hW
  have hL' : laidMet Tryd.prog [("loop.example/g03201/impl.letters", Rows.laid_loop_example_g03201_impl_letters)] W := hL
  obtain ⟨p, q, hA0, hV, rfl, hfz, hnd⟩ := hW
  obtain ⟨g0, rfl⟩ := vars_len1 (trodVars_len hV)
  have hA : DataW.TrodAll enc Tryd.prog W 0 (fun _ => true) true Tryd.f3.params.toList args.toList ds p := hA0
  rw [Tryd.params3] at hA hval
  obtain ⟨v0, vs0, d0, ds0, p0, q0, hargs, rfl, rfl, h0, r0⟩ := trodAll_cons hA
  obtain ⟨rfl, rfl, rfl⟩ := trodAll_nil r0
  obtain rfl : args = #[v0] := by cases args; simp_all
  obtain ⟨A0, n0, c0, rfl, B0⟩ := open_bytes Tryd.underlying22 Tryd.underlying5 (by kernel_rfl) (hval 0 22 v0 rfl rfl) h0
  refine (walk A0 n0 c0 W B0 (let_of hL')).mono fun e W' ⟨he, hb⟩ => ?_
  subst he
  exact ⟨_, rfl, law_postV hW' rfl rfl Tryd.underlying4 laidOut (by kernel_rfl) (by kernel_rfl) hb⟩

theorem laid_met (os : Os) : laidMet Tryd.prog Rows.fnOrdersRow.laid ((laidWorld os).forCall (fun _ _ => 0) ⟨#[], #[.slice none 0 0], []⟩).memory :=
  laidMet_of_run' 8 (by kernel_rfl) (by kernel_rfl)
theorem reads (os : Os) {H : Type} (enc : TypeId × Value → H) : ∃ places, DataW.whole enc Tryd.prog ((laidWorld os).forCall (fun _ _ => 0) ⟨#[], #[.slice none 0 0], []⟩).memory Tryd.f3.params.toList Rows.fnOrdersSpec.vars false (#[.slice none 0 0] : Array Value).toList 8 = some ([.nil], [Rows.laid_loop_example_g03201_impl_letters], places) :=
  ⟨MemPlace.row ⟨0, 0, none⟩ 4, by kernel_rfl⟩
set_option maxRecDepth 100000 in
theorem lifted (os : Os) (started : os.Started) (H : Type) (enc : TypeId × Value → H) (F : Stop.Interp) :
    ReturnsInHanded {} Tryd.checked os 3 .any ((OpenSpec.ofChange Rows.fnOrdersSpec).preRow enc Tryd.prog Tryd.f3 Rows.fnOrdersRow.domain false Rows.fnOrdersRow.laid) (((OpenSpec.ofChange Rows.fnOrdersSpec).at F).post enc Tryd.prog Tryd.f3 false true false false) := by
  obtain ⟨places, hx⟩ := reads os enc
  refine returnsInHanded_of_row (C := Tryd.checked) (s := OpenSpec.ofChange Rows.fnOrdersSpec) own started (by kernel_rfl) Tryd.func3
    (witness_row_at (enc := enc) (C := Tryd.checked) false (laidWorld os) #[.slice none 0 0] rfl (by kernel_rfl) (by kernel_rfl) (by kernel_rfl)
      (OpenSpec.preRow_of_cond 8 hx (by kernel_rfl) (fun k hk => by cases hk) (by kernel_rfl) (laid_met os))) ?_
  intro W base args ds gs before hval hW _ _ _ hL _ _
  exact contract H enc W base args ds gs before hval hW hL
theorem said : Rows.FnOrdersSaid :=
  OpenClaim.holds_of_cond 3 Tryd.f3 rfl rfl rfl rfl rfl rfl rfl ⟨rfl, rfl, rfl, rfl, rfl⟩ rfl rfl rfl rfl rfl (by kernel_rfl) Tryd.func3 (by kernel_rfl)
    (of_decide_eq_true (by kernel_rfl)) (by unfold Func.isWrapper; first | (rw [if_pos (by decide +kernel)]; kernel_rfl) | (rw [if_neg (by decide +kernel)]; exact ⟨rfl, rfl⟩))
    (fun os started H enc _ F => by rw [OpenClaim.pre_eq_preRow]; exact lifted os started H enc F)
theorem plain (f : FuncId) (fn : Func) (hf : Tryd.pinned.checked.prog.funcNamed Rows.fnOrdersRow.func = some f) (hfn : Tryd.pinned.checked.prog.funcs[f]? = some fn) :
    false = Tryd.pinned.checked.prog.looks [] ∧ ∀ (j : Nat) t, fn.params[j]? = some t → Tryd.pinned.checked.prog.wantsStandIn t = false := by
  obtain rfl : f = 3 := Option.some.inj ((show Tryd.prog.funcNamed Rows.fnOrdersRow.func = some 3 by kernel_rfl).symm.trans hf) |>.symm
  obtain rfl : fn = Tryd.f3 := (Option.some.inj (Tryd.func3.symm.trans hfn)).symm
  refine ⟨by kernel_rfl, fun j t ht => ?_⟩
  rw [Tryd.params3] at ht
  match j, ht with
  | 0, ht => (simp at ht; subst ht; exact (show Tryd.prog.wantsStandIn 22 = false by kernel_rfl))
  | n + 1, ht => simp at ht
theorem proved : Rows.FnOrdersCardSaid :=
  Claim7.holds_tied_plain_at .later [] _ _ _ _ said (fun _ h => by cases h) (by kernel_rfl) (fun _ h => by cases h) fnOrders_row_tie rfl ⟨rfl, rfl⟩ (by kernel_rfl) rfl plain (by kernel_rfl)
end Go.Proofs.YtpgfjcnbgomagaaDoor.fnOrders
