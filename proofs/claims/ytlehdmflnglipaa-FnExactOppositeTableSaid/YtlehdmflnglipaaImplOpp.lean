/- The program's OppositeTable and ProductTable. -/
import Derived.Test.YtlehdmflnglipaaTabBy
import Derived.Test.YtlehdmflnglipaaOppPlain
import Derived.StillTailTactics
namespace Go.Proofs.Ytlehdmflnglipaa
open Go.RowKit

theorem TabOk.oppR {N : Nat} {xs : List Int} (h : TabOk N xs) : ∀ i k, i < N → k < N → oppF N xs i k < N := fun _ _ hi hk => h.lt hk hi
set_option maxRecDepth 100000 in
set_option maxHeartbeats 400000 in
theorem oppFn_any (p g N i k : Nat) (xs : List Int) (w : World) (hM : MonAt w g N xs) (hP : Blk w p 39 #[.pointer (some ⟨g, 0, none⟩)]) (hT : TabOk N xs) (hi : i < N) (hk : k < N) :
    Calls Try.prog 26 #[.int .i64 (i : Int), .int .i64 (k : Int), .pointer (some ⟨p, 0, none⟩)] w fun e w' => e = .returned (.int .i64 (oppF N xs i k : Nat)) ∧ ∃ m, w' = w.drewN m := by
  have h40 := hT.hi
  have x0 := hP.cell 0
  have x2 := hM.num hT.rng hk hi
  simp only [List.getElem?_toArray, List.getElem?_cons_zero] at x0
  clear hM hP hT
  unfold oppF
  generalize tmul N xs k i = U at *
  go_enter Try.func26, Try.ntmps26
  go_wp2_with fail
  go_ret
  exact ⟨rfl, 0, rfl⟩
set_option maxRecDepth 100000 in
set_option maxHeartbeats 1600000 in
theorem prodFn_any (p p2 g g2 N M i k : Nat) (xs ys : List Int) (w : World) (hM : MonAt w g N xs) (hP : Blk w p 39 #[.pointer (some ⟨g, 0, none⟩)]) (hM2 : MonAt w g2 M ys) (hP2 : Blk w p2 39 #[.pointer (some ⟨g2, 0, none⟩)]) (hT : TabOk N xs) (hT2 : TabOk M ys) (hNM : N * M ≤ 40) (hi : i < N * M) (hk : k < N * M) :
    Calls Try.prog 29 #[.int .i64 (i : Int), .int .i64 (k : Int), .pointer (some ⟨p, 0, none⟩), .pointer (some ⟨p2, 0, none⟩)] w fun e w' => e = .returned (.int .i64 (prodF N M xs ys i k : Nat)) ∧ ∃ m, w' = w.drewN m := by
  have h40 := hT.hi
  have h40' := hT2.hi
  have hM0 : 0 < M := by have := hT2.lo; omega
  have y0 := hP.cell 0
  have y1 := hP2.cell 0
  have y2 := hM2.size
  simp only [List.getElem?_toArray, List.getElem?_cons_zero] at y0 y1
  have hia : i / M < N := Nat.div_lt_of_lt_mul (by rw [Nat.mul_comm]; exact hi)
  have hka : k / M < N := Nat.div_lt_of_lt_mul (by rw [Nat.mul_comm]; exact hk)
  have hib : i % M < M := Nat.mod_lt i hM0
  have hkb : k % M < M := Nat.mod_lt k hM0
  have x2 := hM.num hT.rng hia hka
  have x3 := hM2.num hT2.rng hib hkb
  have hF : prodF N M xs ys i k = tmul N xs (i / M) (k / M) * M + tmul M ys (i % M) (k % M) := rfl
  have hf1 := hT.lt hia hka
  have hf2 := hT2.lt hib hkb
  have hi40 : i < 40 := by omega
  have hk40 : k < 40 := by omega
  have q1 : (i : Int) / (M : Int) = ((i / M : Nat) : Int) := (Int.natCast_ediv i M).symm
  have q2 : (k : Int) / (M : Int) = ((k / M : Nat) : Int) := (Int.natCast_ediv k M).symm
  have q3 : (i : Int) % (M : Int) = ((i % M : Nat) : Int) := (Int.natCast_emod i M).symm
  have q4 : (k : Int) % (M : Int) = ((k % M : Nat) : Int) := (Int.natCast_emod k M).symm
  have q5 : (i : Int).tmod (M : Int) = ((i % M : Nat) : Int) := (Int.tmod_eq_emod_of_nonneg (by omega)).trans q3
  have q6 : (k : Int).tmod (M : Int) = ((k % M : Nat) : Int) := (Int.tmod_eq_emod_of_nonneg (by omega)).trans q4
  generalize i / M = a at *
  generalize k / M = b at *
  generalize i % M = c at *
  generalize k % M = d at *
  generalize tmul N xs a b = U at *
  generalize tmul M ys c d = V at *
  have r1 : IntKind.i64.wrap ((i : Int) / (M : Int)) = (a : Int) := by rw [q1, IntWalk.i64_in _ (by omega)]
  have r2 : IntKind.i64.wrap ((k : Int) / (M : Int)) = (b : Int) := by rw [q2, IntWalk.i64_in _ (by omega)]
  have hUV : U * M ≤ 1600 := Nat.mul_le_mul (by omega : U ≤ 40) h40'
  have hMn : ¬ M = 0 := by omega
  have HF := Lib.hid hF
  clear hM hP hM2 hP2 hT hT2 hF hi hk q1 q2
  go_enter Try.func29, Try.ntmps29
  go_wp2_with fail
  go_quiet (fail)
  go_wp2_with fail
  go_quiet (fail)
  go_wp2_with fail
  go_ret
  exact ⟨ret_i64 (by rw [HF.out, Int.natCast_add, Int.natCast_mul]), _, rfl⟩
set_option maxRecDepth 100000 in
set_option maxHeartbeats 1600000 in
theorem implOppositeTable (q : Int) (A : Option Addr) (n c B : Nat) (xs : List Int) (w : World) (h : Own B w (.slice A n c) 1 n (ints xs)) (_hn : n ≤ 1048576) :
    Calls Try.prog 12 #[tabV q A n c] w fun e w' => TabAns w (oppOf q xs) e w' := by
  have b0 := bel2 w (.cells #[.int .i64 q, .slice A n c] 27) (.cells #[.int .i64 0, .slice none 0 0] 27)
  have HO := Lib.hid (h.below b0)
  have HZ0 := Lib.hid (Blk.new2 w (.cells #[.int .i64 q, .slice A n c] 27) #[.int .i64 0, .slice none 0 0] 27)
  have hs0 : ((w.alloc (.cells #[.int .i64 q, .slice A n c] 27)).alloc (.cells #[.int .i64 0, .slice none 0 0] 27)).heap.size = w.heap.size + 2 := by simp
  clear h
  go_enter Try.func12, Try.ntmps12
  go_wp2_with fail
  generalize (w.alloc (.cells #[.int .i64 q, .slice A n c] 27)).alloc (.cells #[.int .i64 0, .slice none 0 0] 27) = w0 at *
  refine (monoidFrom_any q A n c B xs _ HO.out).mono ?_
  rintro e w1 ⟨hm, hb1⟩
  have b1 := b0.trans (hb1.mono b0.size)
  have HZ1 := Lib.hid (HZ0.out.below hb1 HZ0.out.lt)
  have hs1 : w.heap.size + 2 ≤ w1.heap.size := by have := hb1.size; omega
  clear hb1 HO HZ0 hs0
  rcases hm with ⟨N, g, rfl, hT, rfl, hg, hM⟩ | ⟨hT, rfl⟩
  · have h1 := hT.lo
    have h40 := hT.hi
    have He := Lib.hid (oppOf_yes hT)
    have HM := Lib.hid hM
    have HT := Lib.hid hT
    have hx : (w1.alloc (.cells #[.pointer (some ⟨g, 0, none⟩)] 39)).cell? ⟨g, 0, none⟩ = some (.int .i64 (N : Int)) := (hM.below (bel1 w1 _)).size
    have hx2 : w1.cell? ⟨g, 0, none⟩ = some (.int .i64 (N : Int)) := hM.size
    clear hT hM hg
    go_wp2_with fail
    have HP2 := Lib.hid (Blk.new1 w1 #[.pointer (some ⟨g, 0, none⟩)] 39)
    have b2 := b1.alloc b1.size (.cells #[.pointer (some ⟨g, 0, none⟩)] 39)
    have HM2 := Lib.hid (HM.out.below (bel1 w1 (.cells #[.pointer (some ⟨g, 0, none⟩)] 39)))
    have HZ2 := Lib.hid (HZ1.out.alloc (.cells #[.pointer (some ⟨g, 0, none⟩)] 39))
    clear hx hx2 HZ1 HM
    generalize w1.alloc (.cells #[.pointer (some ⟨g, 0, none⟩)] 39) = w2 at *
    refine (tableByOpp N w1.heap.size (oppF N xs) w2 (fun w' i k hb hi hk => oppFn_any w1.heap.size g N i k xs w' (HM2.out.below hb) (HP2.out.below hb HP2.out.lt) HT.out hi hk) HT.out.oppR h1 h40).mono ?_
    rintro e w3 ⟨A3, c3, rfl, o3, hb3⟩
    have b3 := b2.trans (hb3.mono b2.size)
    have HZ3 := Lib.hid (HZ2.out.below hb3 HZ2.out.lt)
    have hz2 := HZ2.out.lt
    have O3 := Lib.hid o3
    clear hb3 o3 HZ2
    obtain ⟨z0, z1, zf0, zf1, zl⟩ := HZ3.out.two
    go_wp2_with fail
    refine bodyPost_ret (v := .tuple #[tabV N A3 (N * N) c3, .bool true]) (by simp [results, Try.results12, go_sem, *]) rfl ?_
    rw [He.out]
    refine ⟨A3, c3, by rw [grid_len], ?_, ?_⟩
    · rw [grid_len]
      exact ((O3.out.far (by show w.heap.size + 1 < _; exact hz2) _).far (by show w.heap.size + 1 < _; exact hz2) _).mono (by omega)
    · exact (b3.setCell (by show w.heap.size ≤ w.heap.size + 1; omega) _).setCell (by show w.heap.size ≤ w.heap.size + 1; omega) _
  · have He := Lib.hid (oppOf_no hT)
    clear hT
    obtain ⟨z0, z1, zf0, zf1, zl⟩ := HZ1.out.two
    go_wp2_with fail
    refine bodyPost_ret (v := .tuple #[tabV 0 none 0 0, .bool false]) (by simp [results, Try.results12, go_sem, *]) rfl ?_
    rw [He.out]
    refine ⟨none, 0, rfl, Own.none_, ?_⟩
    exact ((b1.setCell (by show w.heap.size ≤ w.heap.size + 1; omega) _).setCell (by show w.heap.size ≤ w.heap.size + 1; omega) _).alloc (by simp; omega) _
/-- What monoidFrom has told. -/
def MonRes (q : Int) (xs : List Int) (p : Option Addr) (k : Bool) (w : World) : Prop := (k = false ∧ tableOk q xs = false) ∨ (k = true ∧ ∃ (N : Nat) (g : Nat), q = N ∧ TabOk N xs ∧ p = some ⟨g, 0, none⟩ ∧ MonAt w g N xs)
theorem MonRes.below {q : Int} {xs : List Int} {p : Option Addr} {k : Bool} {w w' : World} (h : MonRes q xs p k w) (hb : Below w.heap.size w w') : MonRes q xs p k w' := by
  rcases h with h | ⟨h1, N, g, h2, h3, h4, h5⟩
  · exact .inl h
  · exact .inr ⟨h1, N, g, h2, h3, h4, h5.below hb⟩
theorem monRes_of {q : Int} {xs : List Int} {B : Nat} {e : Ending} {w : World} (hm : FromPost q xs B e w) : ∃ (p1 : Option Addr) (k1 : Bool), e = .returned (.tuple #[.pointer p1, .bool k1]) ∧ MonRes q xs p1 k1 w := by
  rcases hm with ⟨N, g, rfl, hT, rfl, hg, hM⟩ | ⟨hT, rfl⟩
  · exact ⟨_, _, rfl, .inr ⟨rfl, N, g, rfl, hT, rfl, hM⟩⟩
  · exact ⟨_, _, rfl, .inl ⟨rfl, hT⟩⟩
set_option maxRecDepth 100000 in
set_option maxHeartbeats 3200000 in
theorem implProductTable (q r : Int) (A A' : Option Addr) (n c B n' c' B' : Nat) (xs ys : List Int) (w : World) (h : Own B w (.slice A n c) 1 n (ints xs)) (_hn : n ≤ 1048576) (h' : Own B' w (.slice A' n' c') 1 n' (ints ys)) (_hn' : n' ≤ 1048576) :
    Calls Try.prog 16 #[tabV q A n c, tabV r A' n' c'] w fun e w' => TabAns w (prodOf q xs r ys) e w' := by
  have b0 := bel3 w (.cells #[.int .i64 q, .slice A n c] 27) (.cells #[.int .i64 r, .slice A' n' c'] 27) (.cells #[.int .i64 0, .slice none 0 0] 27)
  have HO := Lib.hid (h.below b0)
  have HO' := Lib.hid (h'.below b0)
  have HR0 := Lib.hid ((Blk.new2 w (.cells #[.int .i64 q, .slice A n c] 27) #[.int .i64 r, .slice A' n' c'] 27).alloc (.cells #[.int .i64 0, .slice none 0 0] 27))
  have HZ0 := Lib.hid (Blk.new3 w (.cells #[.int .i64 q, .slice A n c] 27) (.cells #[.int .i64 r, .slice A' n' c'] 27) #[.int .i64 0, .slice none 0 0] 27)
  have hs0 : (((w.alloc (.cells #[.int .i64 q, .slice A n c] 27)).alloc (.cells #[.int .i64 r, .slice A' n' c'] 27)).alloc (.cells #[.int .i64 0, .slice none 0 0] 27)).heap.size = w.heap.size + 3 := by simp
  clear h h'
  go_enter Try.func16, Try.ntmps16
  go_wp2_with fail
  generalize ((w.alloc (.cells #[.int .i64 q, .slice A n c] 27)).alloc (.cells #[.int .i64 r, .slice A' n' c'] 27)).alloc (.cells #[.int .i64 0, .slice none 0 0] 27) = w0 at *
  refine (monoidFrom_any q A n c B xs _ HO.out).mono ?_
  rintro e w1 ⟨hm, hb1⟩
  have b1 := b0.trans (hb1.mono b0.size)
  have HZ1 := Lib.hid (HZ0.out.below hb1 HZ0.out.lt)
  have HR1 := Lib.hid (HR0.out.below hb1 HR0.out.lt)
  have HO1 := Lib.hid (HO'.out.below hb1)
  have hs1 : w.heap.size + 3 ≤ w1.heap.size := by have := hb1.size; omega
  clear hb1 HO HZ0 HR0 hs0 HO'
  obtain ⟨p1, k1, hv1, hk1⟩ : ∃ (p1 : Option Addr) (k1 : Bool), e = .returned (.tuple #[.pointer p1, .bool k1]) ∧ MonRes q xs p1 k1 w1 := monRes_of hm
  subst hv1
  clear hm
  have HK1 := Lib.hid hk1
  clear hk1
  have r0 := (HR1.out.alloc (.cells #[.pointer p1] 39)).cell 0
  have r1 := (HR1.out.alloc (.cells #[.pointer p1] 39)).cell 1
  simp only [List.getElem?_toArray, List.getElem?_cons_zero, List.getElem?_cons_succ] at r0 r1
  go_wp2_with fail
  have HX2 := Lib.hid (Blk.new1 w1 #[.pointer p1] 39)
  have b2 := b1.alloc b1.size (.cells #[.pointer p1] 39)
  have HZ2 := Lib.hid (HZ1.out.alloc (.cells #[.pointer p1] 39))
  have HO2 := Lib.hid (HO1.out.below (bel1 w1 (.cells #[.pointer p1] 39)))
  have HK2 := Lib.hid (HK1.out.below (bel1 w1 (.cells #[.pointer p1] 39)))
  clear r0 r1 HR1 HZ1 HO1 HK1
  generalize w1.alloc (.cells #[.pointer p1] 39) = w2 at *
  refine (monoidFrom_any r A' n' c' B' ys _ HO2.out).mono ?_
  rintro e w3 ⟨hm, hb3⟩
  have b3 := b2.trans (hb3.mono b2.size)
  have HZ3 := Lib.hid (HZ2.out.below hb3 HZ2.out.lt)
  have HX3 := Lib.hid (HX2.out.below hb3 HX2.out.lt)
  have HK3 := Lib.hid (HK2.out.below hb3)
  have hs3 : w1.heap.size < w3.heap.size := HX3.out.lt
  clear hb3 HO2 HZ2 HX2 HK2
  obtain ⟨p2, k2, hv2, hk2⟩ : ∃ (p2 : Option Addr) (k2 : Bool), e = .returned (.tuple #[.pointer p2, .bool k2]) ∧ MonRes r ys p2 k2 w3 := monRes_of hm
  subst hv2
  clear hm
  have HK3' := Lib.hid hk2
  clear hk2
  go_wp2_with fail
  have HY4 := Lib.hid (Blk.new1 w3 #[.pointer p2] 39)
  have b4 := b3.alloc b3.size (.cells #[.pointer p2] 39)
  have HZ4 := Lib.hid (HZ3.out.alloc (.cells #[.pointer p2] 39))
  have HX4 := Lib.hid (HX3.out.alloc (.cells #[.pointer p2] 39))
  have HK4 := Lib.hid (HK3.out.below (bel1 w3 (.cells #[.pointer p2] 39)))
  have HK4' := Lib.hid (HK3'.out.below (bel1 w3 (.cells #[.pointer p2] 39)))
  have hs4 : w3.heap.size < (w3.alloc (.cells #[.pointer p2] 39)).heap.size := by simp
  clear HZ3 HX3 HK3 HK3'
  generalize w3.alloc (.cells #[.pointer p2] 39) = w4 at *
  rcases HK4.out with ⟨rfl, hT⟩ | ⟨rfl, N, g, rfl, hT, rfl, hM⟩
  · have He := Lib.hid (prodOf_no1 (r := r) (ys := ys) hT)
    clear hT
    obtain ⟨z0, z1, zf0, zf1, zl⟩ := HZ4.out.two
    go_quiet (fail)
    go_wp2_with fail
    refine bodyPost_ret (v := .tuple #[tabV 0 none 0 0, .bool false]) (by simp [results, Try.results16, go_sem, *]) rfl ?_
    rw [He.out]
    refine ⟨none, 0, rfl, Own.none_, ?_⟩
    exact ((below_drewN b4 nq).setCell (by show w.heap.size ≤ w.heap.size + 1 + 1; omega) _).setCell (by show w.heap.size ≤ w.heap.size + 1 + 1; omega) _
  rcases HK4'.out with ⟨rfl, hT'⟩ | ⟨rfl, M, g', rfl, hT', rfl, hM'⟩
  · have He := Lib.hid (prodOf_no2 (q := N) (xs := xs) hT')
    clear hT' hT hM
    obtain ⟨z0, z1, zf0, zf1, zl⟩ := HZ4.out.two
    go_quiet (fail)
    go_wp2_with fail
    refine bodyPost_ret (v := .tuple #[tabV 0 none 0 0, .bool false]) (by simp [results, Try.results16, go_sem, *]) rfl ?_
    rw [He.out]
    refine ⟨none, 0, rfl, Own.none_, ?_⟩
    exact ((below_drewN b4 nq).setCell (by show w.heap.size ≤ w.heap.size + 1 + 1; omega) _).setCell (by show w.heap.size ≤ w.heap.size + 1 + 1; omega) _
  have HM := Lib.hid hM
  have HM' := Lib.hid hM'
  have HT := Lib.hid hT
  have HT' := Lib.hid hT'
  have h40 := hT.hi
  have h40' := hT'.hi
  have h1 := hT.lo
  have h1' := hT'.lo
  have hNMu : N * M ≤ 1600 := Nat.mul_le_mul h40 h40'
  have hNM1 : 1 ≤ N * M := Nat.mul_le_mul h1 h1'
  have x0 := hM.size
  have x1 := hM'.size
  have y0 := HX4.out.cell 0
  have y1 := HY4.out.cell 0
  simp only [List.getElem?_toArray, List.getElem?_cons_zero] at y0 y1
  clear hM hM' hT hT'
  by_cases hNM : N * M ≤ 40
  case neg =>
    have He := Lib.hid (prodOf_no3 (N := N) (M := M) (xs := xs) (ys := ys) (by omega))
    have hgt : 40 < N * M := by omega
    have hgtI : (40 : Int) < (N : Int) * (M : Int) := by have := Int.natCast_mul N M; omega
    obtain ⟨z0, z1, zf0, zf1, zl⟩ := HZ4.out.two
    go_quiet (fail)
    go_wp2_with fail
    refine bodyPost_ret (v := .tuple #[tabV 0 none 0 0, .bool false]) (by simp [results, Try.results16, go_sem, *]) rfl ?_
    rw [He.out]
    refine ⟨none, 0, rfl, Own.none_, ?_⟩
    exact ((below_drewN b4 nq).setCell (by show w.heap.size ≤ w.heap.size + 1 + 1; omega) _).setCell (by show w.heap.size ≤ w.heap.size + 1 + 1; omega) _
  have hleI : ¬ (40 : Int) < (N : Int) * (M : Int) := by have := Int.natCast_mul N M; omega
  have hcm : ((N * M : Nat) : Int) = (N : Int) * (M : Int) := Int.natCast_mul N M
  have hNMi : (N : Int) * (M : Int) ≤ 40 := by omega
  have hNM0 : 0 ≤ (N : Int) * (M : Int) := by omega
  go_quiet (fail)
  go_wp2_with fail
  have He := Lib.hid (prodOf_yes (xs := xs) (ys := ys) HT.out HT'.out hNM)
  have b5 := below_drewN b4 nq
  have HZ5 := Lib.hid (HZ4.out.drewN nq)
  have HX5 := Lib.hid (HX4.out.drewN nq)
  have HY5 := Lib.hid (HY4.out.drewN nq)
  have HM5 := Lib.hid (HM.out.drewN nq)
  have HM5' := Lib.hid (HM'.out.drewN nq)
  have z0 : (w4.drewN nq).cell? ⟨g, 0, none⟩ = some (.int .i64 (N : Int)) := x0
  have z1 : (w4.drewN nq).cell? ⟨g', 0, none⟩ = some (.int .i64 (M : Int)) := x1
  have z2 : (w4.drewN nq).cell? ⟨w1.heap.size, 0, none⟩ = some (.pointer (some ⟨g, 0, none⟩)) := y0
  have z3 : (w4.drewN nq).cell? ⟨w3.heap.size, 0, none⟩ = some (.pointer (some ⟨g', 0, none⟩)) := y1
  have hs5 : w3.heap.size < (w4.drewN nq).heap.size := hs4
  clear x0 x1 y0 y1 HZ4 HX4 HY4 HM HM' HK4 HK4' b4
  generalize w4.drewN nq = w5 at *
  have HTB := Lib.hid (fun (w' : World) (hb : Below w5.heap.size w5 w') => by
    have h := tableByProd (N * M) w1.heap.size w3.heap.size (prodF N M xs ys) w' (fun w2 i k hb2 hi hk => prodFn_any w1.heap.size w3.heap.size g g' N M i k xs ys w2 ((HM5.out.below hb).below hb2) ((HX5.out.below hb HX5.out.lt).below hb2 (HX5.out.below hb HX5.out.lt).lt) ((HM5'.out.below hb).below hb2) ((HY5.out.below hb HY5.out.lt).below hb2 (HY5.out.below hb HY5.out.lt).lt) HT.out HT'.out hNM hi hk) (fun i k hi hk => prodF_lt HT.out HT'.out hi hk) hNM1 hNM
    rw [hcm] at h
    exact h)
  clear hcm
  have hD0 : Below w5.heap.size w5 w5.drew := (Below.refl _ w5).drew
  obtain ⟨zz0, zz1, zf0, zf1, zl⟩ := (HZ5.out.below hD0 HZ5.out.lt).two
  go_still_tail 10, (by kernel_rfl)
  change wpList _ _ _ _ _ w5.drew
  go_wp2_with fail
  refine (HTB.out _ hD0).mono ?_
  rintro e w6 ⟨A6, c6, rfl, o6, hb6⟩
  have b6 := b5.trans ((hD0.mono b5.size).trans (hb6.mono (Nat.le_trans b5.size hD0.size)))
  have HZ6 := Lib.hid ((HZ5.out.below hD0 HZ5.out.lt).below hb6 (HZ5.out.below hD0 HZ5.out.lt).lt)
  have O6 := Lib.hid o6
  have hsd : w5.heap.size ≤ w5.drew.heap.size := hD0.size
  clear hb6 o6 HZ5 z0 z1 z2 z3 zz0 zz1 zf0 zf1 zl
  obtain ⟨z0, z1, zf0, zf1, zl⟩ := HZ6.out.two
  go_wp2_with fail
  refine bodyPost_ret (v := .tuple #[tabV ((N : Int) * (M : Int)) A6 (N * M * (N * M)) c6, .bool true]) (by simp [results, Try.results16, go_sem, *]) rfl ?_
  rw [He.out]
  refine ⟨A6, c6, by rw [grid_len, Int.natCast_mul], ?_, ?_⟩
  · rw [grid_len]
    exact ((O6.out.far (by show w.heap.size + 1 + 1 < _; omega) _).far (by show w.heap.size + 1 + 1 < _; omega) _).mono (by omega)
  · exact (b6.setCell (by show w.heap.size ≤ w.heap.size + 1 + 1; omega) _).setCell (by show w.heap.size ≤ w.heap.size + 1 + 1; omega) _
end Go.Proofs.Ytlehdmflnglipaa
