/- The program's subgroups. -/
import Derived.Test.YtkiomohpmajjcaaSpecSub2
namespace Go.Proofs.Ytkiomohpmajjcaa
open Go.RowKit

set_option maxRecDepth 100000 in
set_option maxHeartbeats 400000 in
theorem trivialHas_any (i : Nat) (w : World) :
    Calls Try.prog 122 #[.agg #[], .int .i64 i] w fun e w' => e = .returned (.bool (i == 0)) ∧ Below w.heap.size w w' := by
  go_enter Try.func122, Try.ntmps122
  go_wp2_with fail
  go_ret
  exact ⟨ret_bool (by rw [Bool.eq_iff_iff]; simp), bel1 _ _⟩
theorem has_trivial (n : Nat) (v : Value) (w : World) : Sem.run Try.prog (Go.method (n + 1) 76 v "loop.example/g03201/impl.has") w = .ok (122, v) w := by kernel_rfl
theorem has_cyclic (n : Nat) (v : Value) (w : World) : Sem.run Try.prog (Go.method (n + 1) 53 v "loop.example/g03201/impl.has") w = .ok (119, v) w := by kernel_rfl
theorem has_spanned (n : Nat) (v : Value) (w : World) : Sem.run Try.prog (Go.method (n + 1) 86 v "loop.example/g03201/impl.has") w = .ok (92, v) w := by kernel_rfl
inductive SubV (N : Nat) (xs : List Int) (P : List Nat) (B : Nat) (w : World) : Value → Prop
  | triv : SameGen N xs [] P → SubV N xs P B w (.iface 76 (.agg #[]))
  | cyc {i k c : Nat} {A : Option Addr} : i < N → 0 < k → Away N xs i k → tpow N xs i k = 0 → SameGen N xs [i] P → Own B w (.slice A k c) 1 k (ints (nints (pow1 N xs i k))) → SubV N xs P B w (.iface 53 (.slice A k c))
  | span {Hs Q : List Nat} {m k c c' : Nat} {A A' : Option Addr} : (∀ g ∈ Hs, g < N) → Hs.length ≤ P.length + 1 → SameGen N xs Hs P → 0 < m → Reach N xs Hs Q Q.length → Own B w (.slice A m c) 1 m (ints (nints Hs)) → Own B w (.slice A' k c') 1 k (ints (nints Q)) → SubV N xs P B w (.iface 86 (.agg #[.slice A m c, .slice A' k c']))
theorem SubV.below {N : Nat} {xs : List Int} {P : List Nat} {B : Nat} {w w' : World} {v : Value} (h : SubV N xs P B w v) (hb : Below w.heap.size w w') : SubV N xs P B w' v := by
  cases h with
  | triv h => exact .triv h
  | cyc h1 h2 h3 h4 h5 h6 => exact .cyc h1 h2 h3 h4 h5 (h6.below hb)
  | span h1 h2 h3 h0 h4 h5 h6 => exact .span h1 h2 h3 h0 h4 (h5.below hb) (h6.below hb)
theorem SubV.has {N : Nat} {xs : List Int} {P : List Nat} {B i : Nat} {w : World} {v : Value} (hT : TabOk N xs) (hP : ∀ g ∈ P, g < N) (hi : Gen N xs P i) (h : SubV N xs P B w v) : SubV N xs (P ++ [i]) B w v := by
  cases h with
  | triv h => exact .triv (h.has hT hP hi)
  | cyc h1 h2 h3 h4 h5 h6 => exact .cyc h1 h2 h3 h4 (h5.has hT hP hi) h6
  | span h1 h2 h3 h0 h4 h5 h6 => exact .span h1 (by rw [List.length_append]; omega) (h3.has hT hP hi) h0 h4 h5 h6
theorem idxI_mem {l : List Int} {v : Int} : (0 ≤ idxI l v) ↔ v ∈ l := by
  induction l with
  | nil => simp [idxI]
  | cons a l ih =>
    unfold idxI
    by_cases e : a = v
    · subst e; simp
    · rw [if_neg e, List.mem_cons]
      by_cases h : idxI l v < 0
      · rw [if_pos h]
        have : v ∉ l := fun hm => by have := ih.2 hm; omega
        simp [this]; exact fun h => e h.symm
      · rw [if_neg h]
        have := ih.1 (by omega)
        simp [this]; omega
theorem idxI_ge (l : List Int) (v : Int) : decide (0 ≤ idxI l v) = decide (v ∈ l) := by
  rw [decide_eq_decide]; exact idxI_mem
theorem idxI_bound (l : List Int) (v : Int) : -1 ≤ idxI l v ∧ idxI l v < l.length + 1 := by
  induction l with
  | nil => simp [idxI]
  | cons a l ih =>
    unfold idxI
    simp only [List.length_cons]
    split
    · omega
    · split <;> omega
theorem mem_nints {Q : List Nat} {x : Nat} : ((x : Int) ∈ nints Q) ↔ x ∈ Q := by
  unfold nints
  rw [List.mem_map]
  constructor
  · rintro ⟨y, hy, e⟩; obtain rfl : y = x := by omega
    exact hy
  · intro h; exact ⟨x, h, rfl⟩
set_option maxRecDepth 100000 in
set_option maxHeartbeats 400000 in
theorem containsInt_any (A : Option Addr) (n c B : Nat) (x : Nat) (Q : List Nat) (w : World) (h : Own B w (.slice A n c) 1 n (ints (nints Q))) :
    Calls Try.prog 102 #[.slice A n c, .int .i64 x] w fun e w' => e = .returned (.bool (memB Q x)) ∧ Below w.heap.size w w' := by
  have HO := Lib.hid h
  have hb := idxI_bound (nints Q) x
  have He := Lib.hid (show decide (0 ≤ idxI (nints Q) x) = memB Q x by rw [idxI_ge]; unfold memB; rw [decide_eq_decide]; exact mem_nints)
  clear h
  go_enter Try.func102, Try.ntmps102
  go_wp2_with fail
  refine (indexInt_any A n c B x (nints Q) w HO.out).mono ?_
  rintro e w1 ⟨rfl, rfl⟩
  generalize idxI (nints Q) x = I at *
  go_wp2_with fail
  go_ret
  exact ⟨ret_bool He.out, Below.refl _ _⟩
set_option maxRecDepth 100000 in
set_option maxHeartbeats 400000 in
theorem indexCyc_any (A : Option Addr) (n c B : Nat) (v : Int) (l : List Int) (w : World) (hn : 0 < n) (h : Own B w (.slice A n c) 1 n (ints l)) :
    Calls Try.prog 121 #[.slice A n c, .int .i64 v] w fun e w' => e = .returned (.int .i64 (idxI l v)) ∧ w = w' := by
  have hlen := h.ilen
  have hmax := h.bound
  unfold maxLen at hmax
  obtain ⟨g, off, c0, hv⟩ := h.formR hn
  obtain ⟨rfl, rfl⟩ : A = some ⟨g, off, none⟩ ∧ c = c0 := by injection hv with a _ b; exact ⟨a, b⟩
  clear hv
  have HC := Lib.hid (fun j (hj : j < n) => h.iget hj)
  have Hlen := Lib.hid hlen
  clear h hlen
  go_enter Try.func121, Try.ntmps121
  go_wp2_with fail
  go_loop [8] (fun i => ∃ k : Nat, i = .int .i64 k ∧ k ≤ n ∧ Hid (∀ j, j < k → l[j]? ≠ some v)) (fun i => n - (intOf i).toNat)
  case atStart => exact ⟨0, rfl, Nat.zero_le _, fun j hj => absurd hj (by omega)⟩
  case round =>
    obtain ⟨k, rfl, hk, HI⟩ := hrel
    by_cases hlt : k < n
    · obtain ⟨s, hs, hx⟩ := HC.out k hlt
      by_cases e : s = v
      · subst e
        have He := Lib.hid (idxI_at hs (fun j hj => HI.out j hj))
        clear hs
        go_wp2_with fail
        go_ret
        exact ⟨ret_i64 He.out.symm, rfl⟩
      · have e1 : (v == s) = false := by simp; omega
        have e2 : (s == v) = false := by simp; omega
        have HI1 : Hid (∀ j, j < k + 1 → l[j]? ≠ some v) := fun j hj => by
          by_cases e3 : j = k
          · subst e3; rw [hs]; simpa using e
          · exact HI.out j (by omega)
        clear hs e
        go_wp2_with fail
        go_round
        case rel => exact ⟨k + 1, by go_num, by omega, HI1⟩
        case measure => simp [intOf]; omega
    · obtain rfl : n = k := by omega
      have He := Lib.hid (idxI_no (l := l) (v := v) (fun j hj => HI.out j (by have := Hlen.out; omega)))
      go_wp2_with fail
      go_ret
      exact ⟨ret_i64 He.out.symm, rfl⟩
set_option maxRecDepth 100000 in
set_option maxHeartbeats 400000 in
theorem containsCyc_any (A : Option Addr) (n c B : Nat) (x : Nat) (Q : List Nat) (w : World) (hn : 0 < n) (h : Own B w (.slice A n c) 1 n (ints (nints Q))) :
    Calls Try.prog 120 #[.slice A n c, .int .i64 x] w fun e w' => e = .returned (.bool (memB Q x)) ∧ Below w.heap.size w w' := by
  have HO := Lib.hid h
  have hb := idxI_bound (nints Q) x
  have He := Lib.hid (show decide (0 ≤ idxI (nints Q) x) = memB Q x by rw [idxI_ge]; unfold memB; rw [decide_eq_decide]; exact mem_nints)
  clear h
  go_enter Try.func120, Try.ntmps120
  go_wp2_with fail
  refine (indexCyc_any A n c B x (nints Q) w hn HO.out).mono ?_
  rintro e w1 ⟨rfl, rfl⟩
  generalize idxI (nints Q) x = I at *
  go_wp2_with fail
  go_ret
  exact ⟨ret_bool He.out, Below.refl _ _⟩
set_option maxRecDepth 100000 in
set_option maxHeartbeats 400000 in
theorem cyclicHas_any (A : Option Addr) (n c B : Nat) (x : Nat) (Q : List Nat) (w : World) (hn : 0 < n) (h : Own B w (.slice A n c) 1 n (ints (nints Q))) :
    Calls Try.prog 119 #[.slice A n c, .int .i64 x] w fun e w' => e = .returned (.bool (memB Q x)) ∧ Below w.heap.size w w' := by
  have HO := Lib.hid h
  clear h
  go_enter Try.func119, Try.ntmps119
  go_wp2_with fail
  refine (containsCyc_any A n c B x Q w hn HO.out).mono ?_
  rintro e w1 ⟨rfl, hb⟩
  go_wp2_with fail
  go_ret
  exact ⟨rfl, hb⟩
set_option maxRecDepth 100000 in
set_option maxHeartbeats 400000 in
theorem spannedHas_any (u : Value) (A : Option Addr) (n c B : Nat) (x : Nat) (Q : List Nat) (w : World) (h : Own B w (.slice A n c) 1 n (ints (nints Q))) :
    Calls Try.prog 92 #[.agg #[u, .slice A n c], .int .i64 x] w fun e w' => e = .returned (.bool (memB Q x)) ∧ Below w.heap.size w w' := by
  have HO := Lib.hid (h.below (bel1 w (.cells #[u, .slice A n c] 86)))
  clear h
  go_enter Try.func92, Try.ntmps92
  go_wp2_with fail
  refine (containsInt_any A n c B x Q _ HO.out).mono ?_
  rintro e w1 ⟨rfl, hb⟩
  have b1 := (bel1 w _).trans (hb.mono (by simp))
  clear hb
  go_wp2_with fail
  go_ret
  exact ⟨rfl, b1⟩
theorem gen_nil {N : Nat} {xs : List Int} (y : Nat) : Gen N xs [] y ↔ y = 0 := by
  constructor
  · intro h; cases h with
    | zero => rfl
    | step _ hg => cases hg
  · rintro rfl; exact Gen.zero
theorem mem_pow1 {N : Nat} {xs : List Int} {i k : Nat} (h0 : 0 < k) (hk : tpow N xs i k = 0) (y : Nat) : y ∈ pow1 N xs i k ↔ Gen N xs [i] y := by
  unfold pow1
  rw [List.mem_map]
  constructor
  · rintro ⟨t, _, rfl⟩; exact gen_pow (t + 1)
  · intro h
    obtain ⟨t, h1, h2, rfl⟩ := gen_one h0 hk h
    exact ⟨t - 1, by simp; omega, by rw [show t - 1 + 1 = t by omega]⟩
theorem memB_gen {N : Nat} {xs : List Int} {Q G : List Nat} {y : Nat} (h : y ∈ Q ↔ Gen N xs G y) : memB Q y = genB N xs G y := by
  unfold memB genB
  by_cases hj : y ∈ Q
  · rw [decide_eq_true hj, cdec_yes (h.1 hj)]
  · rw [decide_eq_false hj, cdec_no (fun h2 => hj (h.2 h2))]
/-- What a subgroup's 'has' calls, and what it answers. -/
theorem SubV.callee {N : Nat} {xs : List Int} {P : List Nat} {B : Nat} {w : World} {v : Value} (h : SubV N xs P B w v) :
    ∃ t r f, v = .iface t r ∧ (∀ n w, Sem.run Try.prog (Go.method (n + 1) t r "loop.example/g03201/impl.has") w = .ok (f, r) w) ∧ (∀ args w, Sem.run Try.prog (callFunc f args) w = .ok (.enter f args) w) ∧
      ∀ w' (i : Nat), Below w.heap.size w w' → Calls Try.prog f #[r, .int .i64 i] w' fun e w'' => e = .returned (.bool (genB N xs P i)) ∧ Below w'.heap.size w' w'' := by
  cases h with
  | triv h =>
    refine ⟨_, _, 122, rfl, fun n w => has_trivial n _ w, fun args w => by kernel_rfl, fun w' i hb => (trivialHas_any i w').mono ?_⟩
    rintro e w2 ⟨rfl, hb2⟩
    refine ⟨ret_bool ?_, hb2⟩
    rw [← genB_same h]
    by_cases e : i = 0
    · subst e; exact (cdec_yes Gen.zero).symm
    · rw [show (i == 0) = false by simpa using e]; exact (cdec_no (fun h2 => e ((gen_nil i).1 h2))).symm
  | cyc h1 h2 h3 h4 h5 h6 =>
    refine ⟨_, _, 119, rfl, fun n w => has_cyclic n _ w, fun args w => by kernel_rfl, fun w' i hb => (cyclicHas_any _ _ _ B i _ w' h2 (h6.below hb)).mono ?_⟩
    rintro e w2 ⟨rfl, hb2⟩
    exact ⟨ret_bool (by rw [← genB_same h5]; exact memB_gen (mem_pow1 h2 h4 i)), hb2⟩
  | span h1 h2 h3 h0 h4 h5 h6 =>
    refine ⟨_, _, 92, rfl, fun n w => has_spanned n _ w, fun args w => by kernel_rfl, fun w' i hb => (spannedHas_any _ _ _ _ B i _ w' (h6.below hb)).mono ?_⟩
    rintro e w2 ⟨rfl, hb2⟩
    exact ⟨ret_bool (by rw [← genB_same h3]; exact memB_gen (h4.whole i)), hb2⟩
end Go.Proofs.Ytkiomohpmajjcaa
