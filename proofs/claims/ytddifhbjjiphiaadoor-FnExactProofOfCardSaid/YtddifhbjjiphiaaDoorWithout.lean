/- Parts of lists left out: the program's without (over words and over links), lastPlace; the model's l12Twice, and its two appends. -/
import Derived.Test.YtddifhbjjiphiaaDoorShortPlain
import Derived.ArgAppend
import Derived.Deep.RegionLaw
namespace Go.Proofs.YtddifhbjjiphiaaDoor
open Go.RowKit
theorem Own.drewT {B n size : Nat} {w : World} {v : Value} {xs : List Value} (h : Own B w v size n xs) : Own B w.drew v size n xs := h
/-- append(list[:i:i], list[k:]...), something standing behind k: new memory. -/
theorem run_withoutG {P : Program} {w : World} {t ty e : TypeId} {i0 : TypeInfo} {z : Value} {size bytes : Nat} (hu : P.underlying t = some (.slice e)) (hi : P.info? e = some i0) (hz0 : i0.zero = some z) (hz1 : i0.size = size) (hz2 : i0.bytes = bytes) (h6 : z.cells.size = size) (h7 : 0 < size)
    {B n c g off : Nat} {xs : List Value} (h : Own B w (.slice (some ⟨g, off, none⟩) n c) size n xs) {i k : Nat} (hik : i < k) (hkn : k < n) (c2 : Nat) (hb : n * bytes ≤ 140737488355328) :
    ∃ v' w', (Builtin.append_ #[t, t] ty #[.slice (some ⟨g, off, none⟩) i i, .slice (some ⟨g, off + k * size, none⟩) (n - k) c2]).run P w = .ok v' w' ∧ Own w.heap.size w' v' size (i + (n - k)) (xs.take (i * size) ++ xs.drop (k * size)) ∧ Below w.heap.size w w' := by
  have hmax := h.bound
  have hlen := h.1
  have hcell : ∀ j u, xs[j]? = some u → w.cell? ⟨g, off + j, none⟩ = some u := fun j u hj => ((Own.cellAt h (by omega) (List.getElem?_eq_some_iff.1 hj).1).1).trans hj
  have hk3 : k * size ≤ n * size := Nat.mul_le_mul_right _ (by omega)
  have hi3 : i * size ≤ n * size := Nat.mul_le_mul_right _ (by omega)
  have hsub : (n - k) * size = n * size - k * size := Nat.sub_mul ..
  obtain ⟨v', w', hr, h2, h3⟩ := run_append_arg_grows (P := P) w t ty e i0 z size bytes hu hi hz0 hz1 hz2 h6 h7 ⟨g, off, none⟩ i i (xs.take (i * size)) (by rw [List.length_take]; omega)
    (by
      intro j u hj
      rw [Addr.add_lit]
      have hjl := (List.getElem?_eq_some_iff.1 hj).1
      rw [List.length_take] at hjl
      rw [List.getElem?_take_of_lt (by omega)] at hj
      exact hcell j u hj)
    ⟨g, off + k * size, none⟩ (n - k) c2 (xs.drop (k * size)) (by rw [List.length_drop]; omega)
    (by
      intro j u hj
      rw [Addr.add_lit, Nat.add_assoc]
      rw [List.getElem?_drop] at hj
      exact hcell _ u hj)
    (by omega) (by omega) (Nat.le_trans (Nat.mul_le_mul_right _ (by omega)) hb)
  exact ⟨v', w', hr, Own.of_row h2, (Below.refl _ w).grown h3 (Nat.le_refl _) (fun k hk => by cases hk)⟩
theorem wp_appendRun {P : Program} {w w' : World} {o : Oper} {a : Act} {K : Act → World → Prop} {Q : Exit → Act → World → Prop} {v sv xv : Value} (s x : Operand) (t : TypeId)
    (ho : o.op = .call { callee := .builtin .append, args := #[s, x], argTypes := #[t, t] }) (hs : a.eval s = sv) (hx : a.eval x = xv)
    (hr : (Builtin.append_ #[t, t] o.type #[sv, xv]).run P w = .ok v w') (hK : K (a.put o.dst v) w') : o.wp P a w K Q := by
  unfold Oper.wp execOp
  simp only [ho, resolve, invoke, builtin, Sem.run_bind, Sem.run_pure, Result.andThen_ok, List.map_toArray, List.map_cons, List.map_nil, hs, hx, hr]
  exact hK
theorem run_append_none {P : Program} {w : World} {t ty e : TypeId} {i0 : TypeInfo} {size : Nat} (hu : P.underlying t = some (.slice e)) (hi : P.info? e = some i0) (hz1 : i0.size = size) (A1 : Option Addr) (n c : Nat) (hnc : n ≤ c) (A2 : Option Addr) (c2 : Nat) :
    (Builtin.append_ #[t, t] ty #[.slice A1 n c, .slice A2 0 c2]).run P w = .ok (.slice A1 n c) w := by
  have h1 : (Builtin.firstCells size 0 (.slice A2 0 c2)).run P w = .ok #[] w := by
    cases A2 <;> simp [Builtin.firstCells, loadCells, loadCellsFrom, Sem.run_pure]
  cases A1 <;> simp [Builtin.append_, run_underlying hu, sizeOf, typeInfo, hi, Builtin.lenOf, hz1, h1, storeCells, hnc, Sem.run_pure]
theorem Own.pre {B n c g off size : Nat} {w : World} {xs : List Value} (h : Own B w (.slice (some ⟨g, off, none⟩) n c) size n xs) {i : Nat} (hi : i ≤ n) : Own B w (.slice (some ⟨g, off, none⟩) i i) size i (xs.take (i * size)) := by
  obtain ⟨h1, A', c', hv, hc, hm, h2⟩ := h
  have hi3 : i * size ≤ n * size := Nat.mul_le_mul_right _ hi
  refine ⟨by rw [List.length_take]; omega, _, i, rfl, Nat.le_refl _, by omega, fun hn => ?_⟩
  obtain ⟨g', off', e, hg, hlt, r⟩ := h2 (by omega)
  obtain ⟨rfl, rfl⟩ : g = g' ∧ off = off' := by
    have hA : A' = some ⟨g, off, none⟩ := by injection hv with a _ _; exact a.symm
    rw [hA] at e; injection e with e; injection e with e1 e2; exact ⟨e1, e2⟩
  refine ⟨g, off, rfl, hg, hlt, fun j hj => ?_⟩
  rw [List.length_take] at hj
  rw [List.getElem?_take_of_lt (by omega)]
  exact r j (by omega)
theorem Own.suf {B n c g off size : Nat} {w : World} {xs : List Value} (h : Own B w (.slice (some ⟨g, off, none⟩) n c) size n xs) {k : Nat} (hk : k ≤ n) (A2 : Option Addr) (hA : k < n → A2 = some ⟨g, off + k * size, none⟩) : Own B w (.slice A2 (n - k) (c - k)) size (n - k) (xs.drop (k * size)) := by
  obtain ⟨h1, A', c', hv, hc, hm, h2⟩ := h
  have hk3 : k * size ≤ n * size := Nat.mul_le_mul_right _ hk
  have hsub : (n - k) * size = n * size - k * size := Nat.sub_mul ..
  obtain rfl : c = c' := by injection hv
  refine ⟨by rw [List.length_drop]; omega, _, c - k, rfl, by omega, by omega, fun hn => ?_⟩
  obtain ⟨g', off', e, hg, hlt, r⟩ := h2 (by omega)
  obtain ⟨rfl, rfl⟩ : g = g' ∧ off = off' := by
    have hA : A' = some ⟨g, off, none⟩ := by injection hv with a _ _; exact a.symm
    rw [hA] at e; injection e with e; injection e with e1 e2; exact ⟨e1, e2⟩
  refine ⟨g, off + k * size, hA (by omega), hg, hlt, fun j hj => ?_⟩
  rw [List.length_drop] at hj
  rw [List.getElem?_drop, Nat.add_assoc]
  exact r _ (by omega)
/-- An append of a whole slice to a row of one's own. -/
theorem run_appendG {P : Program} {w : World} {t ty e : TypeId} {i0 : TypeInfo} {z : Value} {size bytes : Nat} (hu : P.underlying t = some (.slice e)) (hi : P.info? e = some i0) (hz0 : i0.zero = some z) (hz1 : i0.size = size) (hz2 : i0.bytes = bytes) (h6 : z.cells.size = size) (h7 : 0 < size)
    {base n : Nat} {v : Value} {xs : List Value} (hown : w.ownsRow base e size v n xs) (hbase : base ≤ w.heap.size) {B m c : Nat} {A : Option Addr} {ys : List Value} (h : Own B w (.slice A m c) size m ys) (h1 : ∀ u ∈ ys, u.oneCell' = true) (hb1 : n + m ≤ maxLen) (hb : (n + m) * bytes ≤ 140737488355328) :
    ∃ v' w', (Builtin.append_ #[t, t] ty #[v, .slice A m c]).run P w = .ok v' w' ∧ w'.ownsRow base e size v' (n + m) (xs ++ ys) ∧ w.grownBy w' v.ownBlock := by
  by_cases h0 : m = 0
  · subst h0
    obtain rfl : ys = [] := List.eq_nil_of_length_eq_zero (by have := h.1; omega)
    obtain ⟨A1, c1, hv⟩ := (Own.of_row hown).form
    subst hv
    exact ⟨_, w, run_append_none hu hi hz1 A1 n c1 (Own.of_row hown).bound.1 A c, by simpa using hown, ⟨rfl, rfl, rfl, Nat.le_refl _, fun _ _ _ => rfl⟩⟩
  · obtain ⟨g, off, c0, hv⟩ := h.formR (by omega)
    obtain ⟨rfl, rfl⟩ : A = some ⟨g, off, none⟩ ∧ c = c0 := by injection hv with a _ b; exact ⟨a, b⟩
    have hcell : ∀ j u, ys[j]? = some u → w.cell? ((⟨g, off, none⟩ : Addr).add j) = some u := by
      intro j u hj
      rw [Addr.add_lit]
      exact ((Own.cellAt h (by omega) (List.getElem?_eq_some_iff.1 hj).1).1).trans hj
    obtain ⟨v', w', hr, h2, h3, -⟩ := run_append_own_at (P := P) w base t ty e i0 z size bytes hu hi hz0 hz1 hz2 h6 h7 v n xs hown ⟨g, off, none⟩ m c ys h.1 hcell h1 hb1 hb hbase
    exact ⟨v', w', hr, h2, h3⟩
/-- append(append([]T{}, list[:i]...), list[k:]...): the two runs. -/
theorem run_cut2 {P : Program} {w : World} {t ty e : TypeId} {i0 : TypeInfo} {z : Value} {size bytes : Nat} (hu : P.underlying t = some (.slice e)) (hi : P.info? e = some i0) (hz0 : i0.zero = some z) (hz1 : i0.size = size) (hz2 : i0.bytes = bytes) (h6 : z.cells.size = size) (h7 : 0 < size)
    {B n c g off : Nat} {xs : List Value} (h : Own B w (.slice (some ⟨g, off, none⟩) n c) size n xs) (h1 : ∀ u ∈ xs, u.oneCell' = true) {i k : Nat} (hik : i < k) (hkn : k ≤ n) (A2 : Option Addr) (hA : k < n → A2 = some ⟨g, off + k * size, none⟩) (hb : n * bytes ≤ 140737488355328) :
    ∃ v1 w1 v2 w2, (Builtin.append_ #[t, t] ty #[.slice (some ⟨w.heap.size, 0, none⟩) 0 0, .slice (some ⟨g, off, none⟩) i c]).run P (w.drew.alloc (.cells #[] e)) = .ok v1 w1 ∧
      (Builtin.append_ #[t, t] ty #[v1, .slice A2 (n - k) (c - k)]).run P w1 = .ok v2 w2 ∧ Own w.heap.size w2 v2 size (i + (n - k)) (xs.take (i * size) ++ xs.drop (k * size)) ∧ Below w.heap.size w w2 := by
  have hmax := h.bound
  have b0 : Below w.heap.size w (w.drew.alloc (.cells #[] e)) := ((Below.refl _ w).drew).alloc (Nat.le_refl _) _
  have hrow : (w.drew.alloc (.cells #[] e)).ownsRow w.heap.size e size (.slice (some ⟨w.heap.size, 0, none⟩) 0 0) 0 [] := by
    have := World.ownsRow_lit (e := e) (base := w.heap.size) (size := size) w.drew #[] 0 (Nat.le_refl _) (by unfold maxLen; omega) (by simp)
    exact this
  have hp : Own B (w.drew.alloc (.cells #[] e)) (.slice (some ⟨g, off, none⟩) i c) size i (xs.take (i * size)) := by
    obtain ⟨p1, A', c', hv, hc, hm, p2⟩ := (h.pre (i := i) (by omega)).below b0
    obtain rfl : A' = some ⟨g, off, none⟩ := by injection hv with a _ _; exact a.symm
    exact ⟨p1, _, c, rfl, by omega, by omega, p2⟩
  obtain ⟨v1, w1, hr1, o1, g1⟩ := run_appendG (P := P) (ty := ty) hu hi hz0 hz1 hz2 h6 h7 hrow (by simp) hp (fun u hu => h1 u (List.mem_of_mem_take hu)) (by omega) (Nat.le_trans (Nat.mul_le_mul_right _ (by omega)) hb)
  have b1 : Below w.heap.size w w1 := b0.grown g1 (by simp) (fun q hq => by simp [Value.ownBlock] at hq; omega)
  obtain ⟨v2, w2, hr2, o2, g2⟩ := run_appendG (P := P) (ty := ty) hu hi hz0 hz1 hz2 h6 h7 o1 b1.size ((h.suf hkn A2 hA).below b1) (fun u hu => h1 u (List.mem_of_mem_drop hu)) (by omega) (Nat.le_trans (Nat.mul_le_mul_right _ (by omega)) hb)
  refine ⟨v1, w1, v2, w2, hr1, hr2, ?_, b1.grown g2 b1.size (fun q hq => ownsRow_ge o1 hq.symm)⟩
  have := Own.of_row o2
  rw [List.nil_append, Nat.zero_add] at this
  exact this
theorem strs_cut (W : List ByteArray) (i k : Nat) : (strs W).take (i * 1) ++ (strs W).drop (k * 1) = strs (cutL W i k) := by
  simp [strs, cutL, List.map_take, List.map_drop]
theorem links_take (K : List LK) : ∀ i, (linksC K).take (i * 3) = linksC (K.take i) := by
  induction K with
  | nil => intro i; simp [linksC]
  | cons a K ih =>
    intro i
    cases i with
    | zero => simp [linksC]
    | succ i =>
      rw [show (i + 1) * 3 = i * 3 + 1 + 1 + 1 by omega]
      show (.int .i64 a.1 :: .int .i64 a.2.1 :: .bool a.2.2 :: linksC K : List Value).take (i * 3 + 1 + 1 + 1) = _
      simp only [List.take_succ_cons, ih i]
      rfl
theorem links_drop (K : List LK) : ∀ i, (linksC K).drop (i * 3) = linksC (K.drop i) := by
  induction K with
  | nil => intro i; simp [linksC]
  | cons a K ih =>
    intro i
    cases i with
    | zero => simp [linksC]
    | succ i =>
      rw [show (i + 1) * 3 = i * 3 + 1 + 1 + 1 by omega]
      show (.int .i64 a.1 :: .int .i64 a.2.1 :: .bool a.2.2 :: linksC K : List Value).drop (i * 3 + 1 + 1 + 1) = _
      simp only [List.drop_succ_cons, ih i]
theorem links_cut (K : List LK) (i k : Nat) : (linksC K).take (i * 3) ++ (linksC K).drop (k * 3) = linksC (cutL K i k) := by
  rw [links_take, links_drop, ← linksC_append]; rfl
theorem strs_one' (l : List ByteArray) : ∀ u ∈ strs l, u.oneCell' = true := by
  intro u hu
  simp only [strs, List.mem_map] at hu
  obtain ⟨r, -, rfl⟩ := hu
  rfl
theorem linksC_one' (l : List LK) : ∀ v ∈ linksC l, v.oneCell' = true := by
  intro v hv
  simp only [linksC, List.mem_flatMap, linkC, List.mem_cons, List.not_mem_nil, or_false] at hv
  obtain ⟨a, -, rfl | rfl | rfl⟩ := hv <;> rfl
set_option maxHeartbeats 800000 in
theorem withoutS (A : Option Addr) (n c B i k : Nat) (W : List ByteArray) (w : World) (h : Own B w (.slice A n c) 1 n (strs W)) (hik : i < k) (hkn : k < n) (hn : n ≤ 1048576) :
    Calls Tryd.prog 57 #[.slice A n c, .int .i64 i, .int .i64 k] w fun e w' => ∃ v, e = .returned v ∧ Own w.heap.size w' v 1 (i + (n - k)) (strs (cutL W i k)) ∧ Below w.heap.size w w' := by
  obtain ⟨i0, hi, hz0, hz1, hz2⟩ := info_parts infoStr
  obtain ⟨g, off, c0, hv⟩ := h.formR (by omega)
  obtain ⟨rfl, rfl⟩ : A = some ⟨g, off, none⟩ ∧ c = c0 := by injection hv with a _ b; exact ⟨a, b⟩
  have hb := h.bound
  unfold maxLen at hb
  obtain ⟨v', w', hap, ho, hbl⟩ := run_withoutG (P := Tryd.prog) (w := w.drew) (t := 40) (ty := 40) (e := 9) Tryd.underlying40 hi hz0 hz1 hz2 rfl (by decide) h.drewT hik hkn (c - k) (by omega)
  rw [strs_cut] at ho
  rw [Nat.mul_one] at hap
  have HO := Lib.hid ho
  have HB := Lib.hid (((Below.refl _ w).drew).trans hbl)
  have h1 : (0 : Int) ≤ (i : Int) := by omega
  have h2 : (i : Int) ≤ (c : Int) := by omega
  have h3 : (i : Int) ≤ (n : Int) := by omega
  have h4 : (k : Int) ≤ (n : Int) := by omega
  have h5 : ¬ c = k := by omega
  clear ho hbl h hv
  go_enter Tryd.func57, Tryd.ntmps57
  go_wp2_with fail
  go_region_law (refine (id ?_); rw [if_pos (by simp [Region.wanted])]; refine wp_appendRun (.tmp 10) (.tmp 13) 40 rfl (by first | rfl | simp [Act.eval, Act.put]) (by first | rfl | simp [Act.eval, Act.put]) hap ?_)
  go_wp2_with fail
  go_ret
  exact ⟨_, rfl, HO.out, HB.out⟩
set_option maxHeartbeats 800000 in
theorem withoutK (A : Option Addr) (n c B i k : Nat) (K : List LK) (w : World) (h : Own B w (.slice A n c) 3 n (linksC K)) (hik : i < k) (hkn : k ≤ n) (hn : n ≤ 1048576) (hB : B ≤ w.heap.size) :
    Calls Tryd.prog 58 #[.slice A n c, .int .i64 i, .int .i64 k] w fun e w' => ∃ v, e = .returned v ∧ Own B w' v 3 (i + (n - k)) (linksC (cutL K i k)) ∧ Below w.heap.size w w' := by
  obtain ⟨i0, hi, hz0, hz1, hz2⟩ := infoR_parts infoLink
  obtain ⟨g, off, c0, hv⟩ := h.formR (by omega)
  obtain ⟨rfl, rfl⟩ : A = some ⟨g, off, none⟩ ∧ c = c0 := by injection hv with a _ b; exact ⟨a, b⟩
  have hb := h.bound
  unfold maxLen at hb
  by_cases hkn2 : k < n
  · obtain ⟨v', w', hap, ho, hbl⟩ := run_withoutG (P := Tryd.prog) (w := w.drew) (t := 43) (ty := 43) (e := 34) Tryd.underlying43 hi hz0 hz1 hz2 rfl (by decide) h.drewT hik hkn2 (c - k) (by omega)
    rw [links_cut] at ho
    have HO := Lib.hid (ho.mono hB)
    have HB := Lib.hid (((Below.refl _ w).drew).trans hbl)
    have h1 : (0 : Int) ≤ (i : Int) := by omega
    have h2 : (i : Int) ≤ (c : Int) := by omega
    have h3 : (i : Int) ≤ (n : Int) := by omega
    have h4 : (k : Int) ≤ (n : Int) := by omega
    have h5 : ¬ c = k := by omega
    clear ho hbl h hv
    go_enter Tryd.func58, Tryd.ntmps58
    go_wp2_with fail
    go_region_law (refine (id ?_); rw [if_pos (by simp [Region.wanted])]; refine wp_appendRun (.tmp 10) (.tmp 13) 43 rfl (by first | rfl | simp [Act.eval, Act.put]) (by first | rfl | simp [Act.eval, Act.put]) hap ?_)
    go_wp2_with fail
    go_ret
    exact ⟨_, rfl, HO.out, HB.out⟩
  · obtain rfl : k = n := by omega
    have HO := Lib.hid (h.pre (i := i) (by omega))
    have ho2 : (linksC K).take (i * 3) = linksC (cutL K i k) := by
      rw [← links_cut, List.drop_of_length_le (by rw [linksC_length, h.llen]; exact Nat.le_refl _), List.append_nil]
    rw [ho2] at HO
    have hnk : i + (k - k) = i := by omega
    rw [hnk]
    have HB := Lib.hid ((Below.refl w.heap.size w).drew)
    have hap := fun A2 c2 => run_append_none (P := Tryd.prog) (w := w.drew) (t := 43) (ty := 43) (e := 34) Tryd.underlying43 hi hz1 (some ⟨g, off, none⟩) i i (Nat.le_refl _) A2 c2
    have h1 : (0 : Int) ≤ (i : Int) := by omega
    have h2 : (i : Int) ≤ (c : Int) := by omega
    have h3 : (i : Int) ≤ (k : Int) := by omega
    have hkk : k - k = 0 := by omega
    clear h hv ho2
    by_cases h5 : c = k
    all_goals
      go_enter Tryd.func58, Tryd.ntmps58
      go_wp2_with fail
      go_region
      go_wp2_with fail
      go_ret
      exact ⟨_, rfl, HO.out, HB.out⟩

set_option maxHeartbeats 800000 in
theorem lastPlace_any (A : Option Addr) (n c B i : Nat) (W : List ByteArray) (u : ByteArray) (w : World) (h : Own B w (.slice A n c) 1 n (strs W)) (hi : i < n) (hu : atW W i = u) :
    Calls Tryd.prog 56 #[.slice A n c, .string u] w fun e w' => e = .returned (.int .i64 (lastI W i : Nat)) ∧ w = w' := by
  have hWl : W.length = n := by have := h.1; rw [strs_length] at this; omega
  have hmax := h.bound
  unfold maxLen at hmax
  obtain ⟨g, off, rfl, -, hlt, hc⟩ := h.str (by omega)
  have HC : Hid (∀ j, j < n → w.cell? ⟨g, off + j, none⟩ = some (.string (atW W j))) := fun j hj => by
    obtain ⟨x, hx, hcell, -⟩ := hc j hj
    rw [hcell, atW, List.getD_eq_getElem?_getD, hx]; rfl
  have Hl := Lib.hid hWl
  have Hu := Lib.hid hu
  clear hc h hWl hu
  go_enter Tryd.func56, Tryd.ntmps56
  go_wp2_with fail
  go_loopw [5] (fun q wr => ∃ e : Nat, q = .int .i64 e ∧ i ≤ e ∧ e < n ∧ Hid (∀ j, e < j → j < n → (atW W j).toList ≠ u.toList) ∧ wr = w) (fun q _ => (intOf q).toNat)
  case atStart => exact ⟨n - 1, by congr 1; omega, by omega, by omega, fun j h1 h2 => by omega, rfl⟩
  case round =>
    obtain ⟨e, rfl, hie, hen, HN, rfl⟩ := hrel
    have y := HC.out e hen
    cases hq : ((atW W e).toList == u.toList)
    · have hne : ¬ (atW W e).toList = u.toList := by simpa using hq
      have hie2 : i < e := by
        rcases Nat.lt_or_ge i e with h | h
        · exact h
        · exfalso
          have : i = e := by omega
          subst this
          exact hne (by rw [Hu.out])
      have HN2 : Hid (∀ j, e - 1 < j → j < n → (atW W j).toList ≠ u.toList) := fun j h1 h2 => by
        by_cases ej : j = e
        · rw [ej]; exact hne
        · exact HN.out j (by omega) h2
      generalize atW W e = x at *
      clear hne
      go_wp2_with fail
      go_roundw
      case rel => exact ⟨e - 1, by congr 1; omega, by omega, by omega, HN2, by first | exact trivial | rfl⟩
      case measure => simp [intOf]; omega
    · have hle : lastI W i = e := lastI_eq (by rw [Hl.out]; exact hen) (by rw [Hu.out]; simpa using hq) (by rw [Hl.out]; exact hi) (fun j h1 h2 => by rw [Hu.out]; exact HN.out j h1 (by rw [← Hl.out]; exact h2))
      have HE := Lib.hid hle
      generalize atW W e = x at *
      clear hle
      go_wp2_with fail
      go_ret
      exact ⟨by rw [HE.out]; rfl, rfl⟩
/-- What l12Twice answers. -/
def TwiceRet (W : List ByteArray) (a b : Int) : Prop := (a = -1 ∧ b = -1 ∧ OnceTo W W.length) ∨ ∃ i k : Nat, a = i ∧ b = k ∧ OnceTo W i ∧ i < W.length ∧ lastI W i = k ∧ i < k
set_option maxRecDepth 100000 in
set_option maxHeartbeats 1600000 in
theorem l12Twice_any (A : Option Addr) (n c B : Nat) (W : List ByteArray) (w : World) (h : Own B w (.slice A n c) 1 n (strs W)) (hn : 0 < n) :
    Calls Tryd.prog 55 #[.slice A n c] w fun e w' => ∃ a b, e = .returned (.tuple #[.int .i64 a, .int .i64 b]) ∧ TwiceRet W a b ∧ w = w' := by
  have hWl : W.length = n := by have := h.1; rw [strs_length] at this; omega
  have hmax := h.bound
  unfold maxLen at hmax
  obtain ⟨g, off, rfl, -, hlt, hc⟩ := h.str (by omega)
  have HC : Hid (∀ j, j < n → w.cell? ⟨g, off + j, none⟩ = some (.string (atW W j))) := fun j hj => by
    obtain ⟨x, hx, hcell, -⟩ := hc j hj
    rw [hcell, atW, List.getD_eq_getElem?_getD, hx]; rfl
  have Hl := Lib.hid hWl
  clear hc h hWl
  go_enter Tryd.func55, Tryd.ntmps55
  go_wp2_with fail
  go_loopw [9] (fun q wr => ∃ j : Nat, q = .int .i64 j ∧ j ≤ n ∧ Hid (OnceTo W j) ∧ wr = w) (fun q _ => n - (intOf q).toNat)
  case atStart => exact ⟨0, rfl, Nat.zero_le _, fun a ha => by omega, rfl⟩
  case round =>
    obtain ⟨j, rfl, hj, HN, rfl⟩ := hrel
    by_cases hlt2 : j < n
    · have y := HC.out j hlt2
      obtain ⟨u, hu⟩ : ∃ u, atW W j = u := ⟨_, rfl⟩
      rw [hu] at y
      have Hu := Lib.hid hu
      clear hu
      go_wp2_with fail
      go_loopw [6] (fun q wx => ∃ e : Nat, q = .int .i64 e ∧ j ≤ e ∧ e < n ∧ Hid (∀ p, e < p → p < n → (atW W p).toList ≠ u.toList) ∧ wx = wr) (fun q _ => (intOf q).toNat)
      case atStart => exact ⟨n - 1, by congr 1; omega, by omega, by omega, fun p h1 h2 => by omega, rfl⟩
      case round =>
        obtain ⟨e, rfl, hje, hen, HP, rfl⟩ := hrel
        have y2 := HC.out e hen
        by_cases hgt : j < e
        · cases hq : ((atW W e).toList == u.toList)
          · have hne : ¬ (atW W e).toList = u.toList := by simpa using hq
            have HP2 : Hid (∀ p, e - 1 < p → p < n → (atW W p).toList ≠ u.toList) := fun p h1 h2 => by
              by_cases ep : p = e
              · rw [ep]; exact hne
              · exact HP.out p (by omega) h2
            generalize atW W e = x at *
            clear hne
            go_wp2_with fail
            go_roundw
            case rel => exact ⟨e - 1, by congr 1; omega, by omega, by omega, HP2, by first | exact trivial | rfl⟩
            case measure => simp [intOf]; omega
          · have hle : lastI W j = e := lastI_eq (by rw [Hl.out]; exact hen) (by rw [Hu.out]; simpa using hq) (by rw [Hl.out]; exact hlt2) (fun p h1 h2 => by rw [Hu.out]; exact HP.out p h1 (by rw [← Hl.out]; exact h2))
            have HT : Hid (TwiceRet W (j : Int) (e : Int)) := .inr ⟨j, e, rfl, rfl, HN.out, by rw [Hl.out]; exact hlt2, hle, hgt⟩
            generalize atW W e = x at *
            clear hle
            go_wp2_with fail
            go_ret2
            exact ⟨_, _, rfl, HT.out, rfl⟩
        · obtain rfl : e = j := by omega
          have hle : lastI W e = e := lastI_eq (by rw [Hl.out]; exact hen) rfl (by rw [Hl.out]; exact hen) (fun p h1 h2 => by rw [Hu.out]; exact HP.out p h1 (by rw [← Hl.out]; exact h2))
          have HN2 := Lib.hid (HN.out.step hle)
          generalize atW W e = x at *
          clear hle
          go_wp2_with fail
          go_roundw
          case rel => exact ⟨e + 1, by go_num, by omega, HN2, by first | exact trivial | rfl⟩
          case measure => simp [intOf]; omega
    · obtain rfl : j = n := by omega
      have HT : Hid (TwiceRet W (-1) (-1)) := .inl ⟨rfl, rfl, by rw [Hl.out]; exact HN.out⟩
      go_wp2_with fail
      go_ret2
      exact ⟨_, _, rfl, HT.out, rfl⟩
end Go.Proofs.YtddifhbjjiphiaaDoor
