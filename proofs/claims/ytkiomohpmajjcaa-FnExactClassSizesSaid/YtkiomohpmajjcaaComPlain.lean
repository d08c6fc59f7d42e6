/- Conjugates and commutators: plain; the inverse and the conjugate on both sides. -/
import Derived.Test.YtkiomohpmajjcaaImplSub4
import Derived.Deep.AppendLies
import Derived.Deep.RegionLaw
namespace Go.Proofs.Ytkiomohpmajjcaa
open Go.RowKit

/-- The product of x, i and the inverse of x. -/
noncomputable def conj (N : Nat) (xs : List Int) (x i : Nat) : Nat := tmul N xs (tmul N xs x i) (tinv N xs x)
theorem Grp.conj_lt {N : Nat} {xs : List Int} (h : Grp N xs) {x i : Nat} (hx : x < N) (hi : i < N) : conj N xs x i < N := h.tab.lt (h.tab.lt hx hi) (h.inv_spec hx).1
noncomputable def com (N : Nat) (xs : List Int) (x y : Nat) : Nat := tmul N xs (conj N xs x y) (tinv N xs y)
theorem Grp.com_lt {N : Nat} {xs : List Int} (h : Grp N xs) {x y : Nat} (hx : x < N) (hy : y < N) : com N xs x y < N := h.tab.lt (h.conj_lt hx hy) (h.inv_spec hy).1
noncomputable def comRow (N : Nat) (xs : List Int) (x k : Nat) : List Nat := (List.range k).map (com N xs x)
noncomputable def comTo (N : Nat) (xs : List Int) (x : Nat) : List Nat := (List.range x).flatMap fun a => comRow N xs a N
theorem comRow_succ (N : Nat) (xs : List Int) (x k : Nat) : comRow N xs x (k + 1) = comRow N xs x k ++ [com N xs x k] := by simp [comRow, List.range_succ]
theorem comRow_length (N : Nat) (xs : List Int) (x k : Nat) : (comRow N xs x k).length = k := by simp [comRow]
theorem comTo_succ (N : Nat) (xs : List Int) (x : Nat) : comTo N xs (x + 1) = comTo N xs x ++ comRow N xs x N := by simp [comTo, List.range_succ]
theorem comTo_length (N : Nat) (xs : List Int) : ∀ x, (comTo N xs x).length = x * N
  | 0 => by simp [comTo]
  | x + 1 => by rw [comTo_succ, List.length_append, comTo_length N xs x, comRow_length, Nat.succ_mul]
theorem Grp.comTo_lt {N : Nat} {xs : List Int} (h : Grp N xs) : ∀ g ∈ comTo N xs N, g < N := fun g hg => by
  unfold comTo comRow at hg
  obtain ⟨a, ha, hg⟩ := List.mem_flatMap.1 hg
  obtain ⟨b, hb, rfl⟩ := List.mem_map.1 hg
  exact h.com_lt (by simpa using ha) (by simpa using hb)
noncomputable def commOf (q : Int) (xs : List Int) : List Int := if isGroupB q xs then pick (genB q.toNat xs (comTo q.toNat xs q.toNat)) q.toNat else []
theorem commOf_yes {N : Nat} {xs : List Int} (h : Grp N xs) : commOf N xs = pick (genB N xs (comTo N xs N)) N := by unfold commOf; rw [isGroup_yes h]; rfl
theorem commOf_no {q : Int} {xs : List Int} (h : isGroupB q xs = false) : commOf q xs = [] := by unfold commOf; rw [h]; rfl
theorem commOf_len (q : Int) (xs : List Int) : (commOf q xs).length ≤ 40 := by
  cases h : isGroupB q xs
  · rw [commOf_no h]; simp
  · obtain ⟨N, rfl, hG⟩ := isGroup_iff h
    rw [commOf_yes hG]
    have := pick_len (genB N xs (comTo N xs N)) N
    have := hG.tab.hi
    omega
theorem group_not {q : Int} {xs : List Int} (h : ¬ gallOk q xs []) : isGroupB q xs = false := by
  cases hg : isGroupB q xs
  · rfl
  · obtain ⟨N, rfl, hG⟩ := isGroup_iff hg
    exact absurd ⟨hg, by unfold allOk; rw [tableOk_yes hG.tab]; rfl⟩ h
theorem news1 {W : World} {g : Nat} {v : Value} (h : W.cell? ⟨g, 0, none⟩ = some v) : ∀ j x, [v][j]? = some x → W.cell? ((⟨g, 0, none⟩ : Addr).add j) = some x := fun j x hj => by
  match j, hj with
  | 0, hj => simp at hj; subst hj; simpa [Addr.add] using h
theorem one_int (u : Int) : ∀ x ∈ [Value.int .i64 u], x.oneCell' = true := fun x hx => by simp at hx; subst hx; rfl
theorem bel_alloc {W X : World} (h : Below W.heap.size W X) (o : Obj) : Below W.heap.size W (X.alloc o) := h.alloc h.size o
theorem l08Inv_any (N i : Nat) (A : Option Addr) (n c B : Nat) (xs : List Int) (w : World) (h : Own B w (.slice A n c) 1 n (ints xs)) (hG : Grp N xs) (hi : i < N) :
    Calls Try.prog 41 #[tabV N A n c, .int .i64 i] w fun e w' => e = .returned (.int .i64 (tinv N xs i : Nat)) ∧ Below w.heap.size w w' :=
  (l08Inverse_any N i A n c B xs w h hG.tab hi).mono fun e w' ⟨hp, hb⟩ => by
    rcases hp with ⟨-, k, -, ⟨hk, hk1, -⟩, rfl⟩ | ⟨hno, rfl⟩
    · exact ⟨by rw [hG.inv_of hi hk hk1], hb⟩
    · exact absurd (hG.inv i hi) (not_cdec hno)
set_option maxRecDepth 100000 in
set_option maxHeartbeats 1600000 in
theorem l10Turn_any (N x i : Nat) (A : Option Addr) (n c B : Nat) (xs : List Int) (w : World) (h : Own B w (.slice A n c) 1 n (ints xs)) (hG : Grp N xs) (hx : x < N) (hi : i < N) :
    Calls Try.prog 52 #[tabV N A n c, .int .i64 x, .int .i64 i] w fun e w' => e = .returned (.int .i64 (conj N xs x i : Nat)) ∧ Below w.heap.size w w' := by
  have b1 := bel1 w (.cells #[.int .i64 (N : Int), .slice A n c] 28)
  have X1 := Lib.hid (Blk.new1 w #[.int .i64 (N : Int), .slice A n c] 28)
  have HO := Lib.hid (fun (w' : World) (hb : Below w.heap.size w w') => h.below hb)
  have HG := Lib.hid hG
  have h1 := hG.tab.lt hx hi
  have h2 := (hG.inv_spec hx).1
  clear h hG
  go_enter Try.func52, Try.ntmps52
  go_wp2_with fail
  generalize w.alloc (.cells #[.int .i64 (N : Int), .slice A n c] 28) = w1 at *
  obtain ⟨q0, q1, -, -, ql⟩ := X1.out.two
  have hbs := b1.size
  have HW := Lib.hid (fun (w' : World) (hS : w'.cell? ⟨w.heap.size, 0, none⟩ = some (.int .i64 (N : Int)) ∧ w'.cell? ⟨w.heap.size, 1, none⟩ = some (.slice A n c) ∧ Below w1.heap.size w1 w') => HO.out w' (b1.trans (hS.2.2.mono hbs)))
  have He := Lib.hid (show conj N xs x i = tmul N xs (tmul N xs x i) (tinv N xs x) from rfl)
  generalize hR : conj N xs x i = R at *
  have HR := Lib.hid hR
  clear hR
  generalize hT : tmul N xs x i = T at *
  generalize hI : tinv N xs x = I at *
  have HTt := Lib.hid hT
  have HIi := Lib.hid hI
  clear hT hI
  have HTimes := Lib.hid (fun (w' : World) (hS : w'.cell? ⟨w.heap.size, 0, none⟩ = some (.int .i64 (N : Int)) ∧ w'.cell? ⟨w.heap.size, 1, none⟩ = some (.slice A n c) ∧ Below w1.heap.size w1 w') => by have h := l08Times_any N x i A n c B xs w' (HW.out w' hS) HG.out.tab hx hi; rw [HTt.out] at h; exact h)
  have HTimes2 := Lib.hid (fun (w' : World) (hS : w'.cell? ⟨w.heap.size, 0, none⟩ = some (.int .i64 (N : Int)) ∧ w'.cell? ⟨w.heap.size, 1, none⟩ = some (.slice A n c) ∧ Below w1.heap.size w1 w') => by have h := l08Times_any N T I A n c B xs w' (HW.out w' hS) HG.out.tab h1 h2; rw [← He.out] at h; exact h)
  have HInv := Lib.hid (fun (w' : World) (hS : w'.cell? ⟨w.heap.size, 0, none⟩ = some (.int .i64 (N : Int)) ∧ w'.cell? ⟨w.heap.size, 1, none⟩ = some (.slice A n c) ∧ Below w1.heap.size w1 w') => by have h := l08Inv_any N x A n c B xs w' (HW.out w' hS) HG.out hx; rw [HIi.out] at h; exact h)
  go_region_held3 (fun w' => w'.cell? ⟨w.heap.size, 0, none⟩ = some (.int .i64 (N : Int)) ∧ w'.cell? ⟨w.heap.size, 1, none⟩ = some (.slice A n c) ∧ Below w1.heap.size w1 w')
    (first | exact ⟨q0, q1, (Below.refl _ w1).drew⟩ | exact held2_keep (by assumption) hb9 (Nat.le_refl _) ql | exact held2_keep (by assumption) hb8 (Nat.le_refl _) ql | exact held2_keep (by assumption) hb7 (Nat.le_refl _) ql)
    ((first | (go_at_call_of 50 (Value.int .i64 (x : Int)); refine (HTimes.out _ (by assumption)).mono ?_; rintro e w9 ⟨rfl, hb9⟩) | (go_at_call 41; refine (HInv.out _ (by assumption)).mono ?_; rintro e w8 ⟨rfl, hb8⟩) | (go_at_call_of 50 (Value.int .i64 (T : Int)); refine (HTimes2.out _ (by assumption)).mono ?_; rintro e w7 ⟨rfl, hb7⟩)))
  have hS := (‹_ ∧ _ ∧ Below w1.heap.size w1 w7›).2.2
  go_wp2_with fail
  go_ret
  exact ⟨ret_i64 (by rw [HR.out]), b1.trans (hS.mono hbs)⟩
set_option maxRecDepth 100000 in
set_option maxHeartbeats 1600000 in
theorem conjugate_any (h g N i x : Nat) (xs : List Int) (w : World) (H : GrpAt w h g N xs) (hG : Grp N xs) (hi : i < N) (hx : x < N) :
    Calls Try.prog 67 #[.pointer (some ⟨h, 0, none⟩), .int .i64 i, .int .i64 x] w fun e w' => e = .returned (.int .i64 (conj N xs x i : Nat)) ∧ ∃ m, w' = w.drewN m := by
  have h40 := hG.tab.hi
  have x1 := H.ptr
  have x2 := H.inv x hx
  have x3 := H.mon.num hG.tab.rng hx hi
  have h1 := hG.tab.lt hx hi
  have h2 := (hG.inv_spec hx).1
  have x4 := H.mon.num hG.tab.rng h1 h2
  have He := Lib.hid (show tmul N xs (tmul N xs x i) (tinv N xs x) = conj N xs x i from rfl)
  rw [He.out] at x4
  generalize conj N xs x i = R at *
  generalize tmul N xs x i = T at *
  generalize tinv N xs x = I at *
  clear H hG He
  go_enter Try.func67, Try.ntmps67
  go_wp2_with fail
  go_quiet (fail)
  all_goals go_wp2_with fail
  go_ret
  exact ⟨rfl, _, rfl⟩
end Go.Proofs.Ytkiomohpmajjcaa
