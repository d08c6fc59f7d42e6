/- impl.ParseInt. -/
import Derived.Test.YtpmghdecfpfahaaDoorDoor
import Derived.Stop.LaidErr
namespace Go.Proofs.YtpmghdecfpfahaaDoor
open Go.RowKit Go.Joins

/-- The library's two error variables hold errors. -/
def Errs (W : World) : Prop := (∃ te pe, W.cell? ⟨1, 0, none⟩ = some (.iface te pe)) ∧ (∃ te pe, W.cell? ⟨2, 0, none⟩ = some (.iface te pe))
theorem star : "*" ++ "errors.errorString" = "*errors.errorString" := by decide
theorem rowErr (u : TypeId) (h : Tryd.prog.typeName? 3 u = some "*errors.errorString") : u = 120 :=
  typeName_ptr_named (nm := "errors.errorString") (by rw [star]; kernel_rfl) (by kernel_rfl) (by decide) u (by rw [star]; exact h)
theorem errs_of {W : World} {rest : List (String × DataW Unit)} (h : laidMet Tryd.prog (("strconv.ErrRange", Rows.laid_strconv_ErrRange) :: ("strconv.ErrSyntax", Rows.laid_strconv_ErrSyntax) :: rest) W) : Errs W := by
  obtain ⟨a0, t0, hv0, -⟩ := laid_sentinel (g := 2) h (by kernel_rfl) (by kernel_rfl) Tryd.underlying75 rowErr Tryd.underlying120 Tryd.underlying122 rfl rfl Tryd.underlying9 (by kernel_rfl) (by kernel_rfl)
  obtain ⟨a1, t1, hv1, -⟩ := laid_sentinel (g := 1) h.tail (by kernel_rfl) (by kernel_rfl) Tryd.underlying75 rowErr Tryd.underlying120 Tryd.underlying122 rfl rfl Tryd.underlying9 (by kernel_rfl) (by kernel_rfl)
  exact ⟨⟨_, _, World.var?_cell (g := 1) (by kernel_rfl) hv1 0⟩, ⟨_, _, World.var?_cell (g := 2) (by kernel_rfl) hv0 0⟩⟩
theorem Errs.keep {w w' : World} (h : Errs w) (hb : Below w.heap.size w w') : Errs w' := by
  obtain ⟨⟨t1, p1, h1⟩, ⟨t2, p2, h2⟩⟩ := h
  exact ⟨⟨t1, p1, (hb.cell (World.block_lt_of_cell? w _ h1)).trans h1⟩, ⟨t2, p2, (hb.cell (World.block_lt_of_cell? w _ h2)).trans h2⟩⟩
theorem below_bytes {w w' : World} {e : TypeId} (h : w' = w ∨ ∃ t, w' = Lib.bytesWorld w e t) : Below w.heap.size w w' := by
  rcases h with rfl | ⟨t, rfl⟩
  · exact Below.refl _ _
  · exact below_bytesWorld _ w e t (Nat.le_refl _)

set_option maxHeartbeats 400000 in
theorem implParseInt (s : ByteArray) (w : World) (hs : s.size ≤ 1048576) (hp : Pow w) (hE : Errs w) :
    Calls Tryd.prog 57 #[.string s] w (ParseRet s w) := by
  have Hp := Lib.hid hp
  have HE := Lib.hid hE
  clear hp hE
  cases hend : Lib.atoiAll s.data.toList
  · rename_i v
    have hv := Lib.atoiAll_bounds hend
    have Hend := Lib.hid hend
    clear hend
    go_enter Tryd.func57, Tryd.ntmps57
    go_wp2_with (go_at_call 68; refine (Tryd.strconv_Atoi_ok s (by omega) v Hend.out _).mono ?_)
    rintro e w1 ⟨rfl, hw⟩
    have b1 := below_bytes hw
    clear hw
    have Hp1 := Lib.hid (Hp.out.keep b1 (Nat.le_refl _))
    cases heq : ((itoaS v).toList == s.toList)
    · have hno : ∀ m, In64 m → itoaS m ≠ s := fun m hm h => by
        have h1 := atoi_itoaS hm h
        rw [Hend.out] at h1
        injection h1 with h1
        rw [h1, h] at heq
        simp at heq
      have Hno := Lib.hid hno
      clear hno
      go_wp2_with (go_at_call 53; refine (implFormatInt _ _ hv.1 hv.2 Hp1.out).mono ?_)
      rintro e w2 ⟨rfl, b2⟩
      go_wp2_with fail
      go_ret2
      exact ⟨0, false, rfl, Or.inr ⟨rfl, rfl, Hno.out⟩, b1.trans (b2.mono b1.size)⟩
    · have hyes : itoaS v = s := by
        have h1 : (itoaS v).toList = s.toList := by simpa using heq
        rw [toList_data, toList_data] at h1
        exact ByteArray.ext (by simpa using congrArg List.toArray h1)
      have Hyes := Lib.hid hyes
      clear hyes
      go_wp2_with (go_at_call 53; refine (implFormatInt _ _ hv.1 hv.2 Hp1.out).mono ?_)
      rintro e w2 ⟨rfl, b2⟩
      go_wp2_with fail
      go_ret2
      exact ⟨v, true, rfl, Or.inl ⟨rfl, Hyes.out, hv⟩, b1.trans (b2.mono b1.size)⟩
  all_goals
    have hno : ∀ m, In64 m → itoaS m ≠ s := fun m hm h => by
      have h1 := atoi_itoaS hm h
      rw [hend] at h1
      cases h1
    have Hno := Lib.hid hno
    have Hend := Lib.hid hend
    clear hno hend
  · obtain ⟨te, pe, h1⟩ := HE.out.1
    go_enter Tryd.func57, Tryd.ntmps57
    go_wp2_with (go_at_call 68; refine (Any.strconv_Atoi_syntax Tryd.laysC172 s (by omega) Hend.out _ _ h1 (Or.inr ⟨te, pe, rfl⟩)).mono ?_)
    rintro e w1 ⟨g, rfl, -, -, b1⟩
    go_wp2_with fail
    go_ret2
    exact ⟨0, false, rfl, Or.inr ⟨rfl, rfl, Hno.out⟩, b1⟩
  · obtain ⟨te, pe, h1⟩ := HE.out.2
    go_enter Tryd.func57, Tryd.ntmps57
    go_wp2_with (go_at_call 68; refine (Any.strconv_Atoi_range Tryd.laysC172 s (by omega) Hend.out _ _ h1 (Or.inr ⟨te, pe, rfl⟩)).mono ?_)
    rintro e w1 ⟨g, rfl, -, -, b1⟩
    go_wp2_with fail
    go_ret2
    exact ⟨0, false, rfl, Or.inr ⟨rfl, rfl, Hno.out⟩, b1⟩
end Go.Proofs.YtpmghdecfpfahaaDoor
