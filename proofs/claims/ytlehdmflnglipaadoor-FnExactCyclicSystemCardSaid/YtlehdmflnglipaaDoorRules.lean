/- Rules and lists of rules: how they lie; the laws' szRule, toRule, eqRule and their lists. -/
import Derived.Test.YtlehdmflnglipaaDoorOwn
import Derived.Test.YtlehdmflnglipaaDoorBase
import Derived.IntWalk
import Derived.Deep.QuietTactic
import Derived.BigQuiet
import Derived.Laws.ResultCell
import Derived.Laws.Rows
import Derived.Deep.RegionHeld3
namespace Go.Proofs.YtlehdmflnglipaaDoor
open Go.RowKit

abbrev R := ByteArray × ByteArray
abbrev ruleV (r : R) : Value := .agg #[.string r.1, .string r.2]
def ruleC (r : R) : List Value := [.string r.1, .string r.2]
def rulesC (l : List R) : List Value := l.flatMap ruleC
def ruleSz (r : R) : Nat := r.1.size + r.2.size
def rulesSz (l : List R) : Nat := (l.map ruleSz).sum
theorem rulesC_length (l : List R) : (rulesC l).length = l.length * 2 := by
  induction l with
  | nil => rfl
  | cons r l ih => simp only [rulesC, List.flatMap_cons, List.length_append, List.length_cons] at ih ⊢; rw [ih]; simp [ruleC]; omega
theorem rulesC_get (l : List R) (k : Nat) (r : R) (h : l[k]? = some r) : (rulesC l)[k * 2]? = some (.string r.1) ∧ (rulesC l)[k * 2 + 1]? = some (.string r.2) := by
  induction l generalizing k with
  | nil => simp at h
  | cons a l ih =>
    cases k with
    | zero => simp at h; subst h; simp [rulesC, ruleC]
    | succ k =>
      have := ih k (by simpa using h)
      simp only [rulesC, List.flatMap_cons]
      rw [List.getElem?_append_right (by simp [ruleC]; omega), List.getElem?_append_right (by simp [ruleC]; omega)]
      rw [show (k + 1) * 2 - (ruleC a).length = k * 2 by simp [ruleC]; omega, show (k + 1) * 2 + 1 - (ruleC a).length = k * 2 + 1 by simp [ruleC]; omega]
      exact this

theorem toList_inj {u v : ByteArray} (h : u.toList = v.toList) : u = v := by
  rw [toList_data, toList_data] at h
  apply ByteArray.ext; exact Array.toList_inj.1 h
theorem toList_ne {u v : ByteArray} (h : u ≠ v) : (u.toList == v.toList) = false := by
  rw [beq_eq_false_iff_ne]; exact fun e => h (toList_inj e)
theorem bel1 (w : World) (o : Obj) : Below w.heap.size w (w.alloc o) := (Below.refl _ w).alloc (Nat.le_refl _) _
theorem bel2 (w : World) (o o2 : Obj) : Below w.heap.size w ((w.alloc o).alloc o2) := (bel1 w o).alloc (by simp) _
theorem bel3 (w : World) (o o2 o3 : Obj) : Below w.heap.size w (((w.alloc o).alloc o2).alloc o3) := (bel2 w o o2).alloc (by simp; omega) _
theorem bel4 (w : World) (o o2 o3 o4 : Obj) : Below w.heap.size w ((((w.alloc o).alloc o2).alloc o3).alloc o4) := (bel3 w o o2 o3).alloc (by simp; omega) _

def SzPost (q : Int) (t left : Nat) : Prop := q = -1 ∨ (0 ≤ q ∧ q + t = left)
set_option maxHeartbeats 400000 in
theorem eqRule_any (u v s t : ByteArray) (w : World) :
    Calls Tryd.prog 53 #[.agg #[.string u, .string v], .agg #[.string s, .string t]] w fun e w' => e = .returned (.bool (decide (u = s ∧ v = t))) ∧ Below w.heap.size w w' := by
  by_cases h1 : u = s
  · by_cases h2 : v = t
    · subst h1
      subst h2
      go_enter Tryd.func53, Tryd.ntmps53
      go_wp2
      go_ret
      exact ⟨ret_bool (by simp), bel2 _ _ _⟩
    · subst h1
      have hd : (v.toList == t.toList) = false := toList_ne h2
      have He := Lib.hid (show decide (u = u ∧ v = t) = false by simp [h2])
      clear h2
      go_enter Tryd.func53, Tryd.ntmps53
      go_wp2
      go_ret
      exact ⟨ret_bool (by simpa using He.out.symm), bel2 _ _ _⟩
  · have hd : (u.toList == s.toList) = false := toList_ne h1
    have He := Lib.hid (show false = decide (u = s ∧ v = t) by simp [h1])
    clear h1
    go_enter Tryd.func53, Tryd.ntmps53
    go_wp2
    go_ret
    exact ⟨ret_bool He.out, bel2 _ _ _⟩
/-- A store elsewhere: below the slice's base. -/
theorem Own.far {B m n : Nat} {w : World} {v : Value} {xs : List Value} (h : Own B w v m n xs) {p : Addr} (hp : p.block < B) (u : Value) : Own B (w.setCell p u) v m n xs := by
  obtain ⟨h1, A, c, hv, hc, hm, h2⟩ := h
  refine ⟨h1, A, c, hv, hc, hm, fun hn => ?_⟩
  obtain ⟨g, off, e, hg, hlt, r⟩ := h2 hn
  refine ⟨g, off, e, hg, by simpa [World.setCell] using hlt, fun j hj => ?_⟩
  have hh := Below.heap_setCell w p u g (by omega)
  exact ⟨(World.cell?_of_block (w := w) (a := ⟨g, off + j, none⟩) hh).trans (r j hj).1, (World.frozen?_of_block (w := w) (a := ⟨g, off + j, none⟩) hh).trans (r j hj).2⟩
/-- Block g holds just cs, and may be written. -/
def Blk (w : World) (g : Nat) (t : TypeId) (cs : Array Value) : Prop := w.heap[g]? = some (.cells cs t (0, 0))
theorem Blk.lt {w : World} {g : Nat} {t : TypeId} {cs : Array Value} (h : Blk w g t cs) : g < w.heap.size := by
  rcases Nat.lt_or_ge g w.heap.size with hlt | hge
  · exact hlt
  · unfold Blk at h; rw [Array.getElem?_eq_none hge] at h; cases h
theorem Blk.cell {w : World} {g : Nat} {t : TypeId} {cs : Array Value} (h : Blk w g t cs) (i : Nat) : w.cell? ⟨g, i, none⟩ = cs[i]? := cell_of_row w g i cs t (0, 0) h
theorem Blk.frozen {w : World} {g : Nat} {t : TypeId} {cs : Array Value} (h : Blk w g t cs) (i : Nat) : w.frozen? ⟨g, i, none⟩ = false := by
  unfold Blk at h
  simp [World.frozen?, h]
theorem Blk.below {w w' : World} {g : Nat} {t : TypeId} {cs : Array Value} {B : Nat} (h : Blk w g t cs) (hb : Below B w w') (hg : g < B) : Blk w' g t cs := (hb.block g hg).trans h
theorem Blk.alloc {w : World} {g : Nat} {t : TypeId} {cs : Array Value} (h : Blk w g t cs) (o : Obj) : Blk (w.alloc o) g t cs := (Below.heap_alloc w o g h.lt).trans h
theorem Blk.new1 (w : World) (cs : Array Value) (t : TypeId) : Blk (w.alloc (.cells cs t)) w.heap.size t cs := heap_alloc_new w _
theorem Blk.new2 (w : World) (o : Obj) (cs : Array Value) (t : TypeId) : Blk ((w.alloc o).alloc (.cells cs t)) (w.heap.size + 1) t cs := by
  have h := Blk.new1 (w.alloc o) cs t
  rwa [World.size_alloc] at h
theorem Blk.new3 (w : World) (o o2 : Obj) (cs : Array Value) (t : TypeId) : Blk (((w.alloc o).alloc o2).alloc (.cells cs t)) (w.heap.size + 1 + 1) t cs := by
  have h := Blk.new2 (w.alloc o) o2 cs t
  rwa [World.size_alloc] at h
theorem Blk.new4 (w : World) (o o2 o3 : Obj) (cs : Array Value) (t : TypeId) : Blk ((((w.alloc o).alloc o2).alloc o3).alloc (.cells cs t)) (w.heap.size + 1 + 1 + 1) t cs := by
  have h := Blk.new3 (w.alloc o) o2 o3 cs t
  rwa [World.size_alloc] at h
theorem Blk.drewN {w : World} {g : Nat} {t : TypeId} {cs : Array Value} (h : Blk w g t cs) (m : Nat) : Blk (w.drewN m) g t cs := h
theorem Blk.two {w : World} {g : Nat} {t : TypeId} {a b : Value} (h : Blk w g t #[a, b]) :
    w.cell? ⟨g, 0, none⟩ = some a ∧ w.cell? ⟨g, 1, none⟩ = some b ∧ w.frozen? ⟨g, 0, none⟩ = false ∧ w.frozen? ⟨g, 1, none⟩ = false ∧ g < w.heap.size :=
  ⟨h.cell 0, h.cell 1, h.frozen 0, h.frozen 1, h.lt⟩
theorem Blk.set_ {w : World} {g : Nat} {t : TypeId} {cs : Array Value} (h : Blk w g t cs) (i : Nat) (u : Value) : Blk (w.setCell ⟨g, i, none⟩ u) g t (cs.setIfInBounds i u) := by
  unfold Blk at h ⊢
  simp [World.setCell, Array.getElem?_modify, h]
theorem Blk.far {w : World} {g : Nat} {t : TypeId} {cs : Array Value} (h : Blk w g t cs) {p : Addr} (hp : g ≠ p.block) (u : Value) : Blk (w.setCell p u) g t cs := (Below.heap_setCell w p u g hp).trans h

/-- A slice of rules that came in: its cells hold xs. -/
def InR (w : World) (A : Option Addr) (n c : Nat) (xs : List R) : Prop :=
  xs.length = n ∧ n ≤ c ∧ c ≤ maxLen ∧ ∀ k, k < n → ∃ a r, A = some a ∧ xs[k]? = some r ∧ a.block < w.heap.size ∧ w.cell? (a.add (k * 2)) = some (.string r.1) ∧ w.cell? ⟨(a.add (k * 2)).block, (a.add (k * 2)).off + 1, none⟩ = some (.string r.2) ∧ r.1.size ≤ maxLen ∧ r.2.size ≤ maxLen
theorem addR_block (a : Addr) (k : Nat) : (a.add k).block = a.block := by unfold Addr.add; split <;> rfl
theorem InR.keep {w w' : World} {A : Option Addr} {n c : Nat} {xs : List R} (h : InR w A n c xs) (hb : Below w.heap.size w w') : InR w' A n c xs := by
  obtain ⟨h1, h2, h3, h4⟩ := h
  refine ⟨h1, h2, h3, fun k hk => ?_⟩
  obtain ⟨a, r, e, hs, hlt, hc, hc', hm⟩ := h4 k hk
  exact ⟨a, r, e, hs, by have := hb.size; omega, (hb.cell (by rw [addR_block]; exact hlt)).trans hc, (hb.cell (by show (a.add (k * 2)).block < _; rw [addR_block]; exact hlt)).trans hc', hm⟩
theorem rulesSz_step (xs : List R) (k : Nat) (r : R) (h : xs[k]? = some r) : rulesSz (xs.take (k + 1)) = rulesSz (xs.take k) + (r.1.size + r.2.size) := by
  have hk := (List.getElem?_eq_some_iff.1 h).1
  have he := (List.getElem?_eq_some_iff.1 h).2
  rw [List.take_succ_eq_append_getElem hk, he]; simp [rulesSz, ruleSz]

theorem infoRule : (Tryd.prog.info? 44).map (fun i => (i.zero, i.size, i.bytes)) = some (some (.agg #[.string ⟨#[]⟩, .string ⟨#[]⟩]), 2, 32) := by kernel_rfl
theorem infoR_parts {P : Program} {t : TypeId} {z : Value} {s b : Nat} (h : (P.info? t).map (fun i => (i.zero, i.size, i.bytes)) = some (some z, s, b)) : ∃ i, P.info? t = some i ∧ i.zero = some z ∧ i.size = s ∧ i.bytes = b := by
  cases hi : P.info? t with
  | none => rw [hi] at h; cases h
  | some i => rw [hi] at h; simp at h; exact ⟨i, rfl, h.1, h.2.1, h.2.2⟩
theorem madeRules_get (n j : Nat) (hj : j < n * 2) : (madeCells #[Value.string ⟨#[]⟩, Value.string ⟨#[]⟩] (n * 2))[j]? = some (.string ⟨#[]⟩) := by
  have h : j % 2 = 0 ∨ j % 2 = 1 := by omega
  rcases h with h | h <;> simp [madeCells, hj, h]
theorem Own.madeR (u : World) (n : Nat) (e : TypeId) (hn : n ≤ maxLen) : Own u.heap.size (u.alloc (.cells (madeCells #[.string ⟨#[]⟩, .string ⟨#[]⟩] (n * 2)) e)) (.slice (some ⟨u.heap.size, 0, none⟩) n n) 2 n (rulesC (List.replicate n (⟨#[]⟩, ⟨#[]⟩))) := by
  refine ⟨by rw [rulesC_length]; simp, _, n, rfl, Nat.le_refl _, hn, fun _ => ⟨u.heap.size, 0, rfl, Nat.le_refl _, by simp, fun j hj => ?_⟩⟩
  have hh := heap_alloc_new u (.cells (madeCells #[.string ⟨#[]⟩, .string ⟨#[]⟩] (n * 2)) e)
  refine ⟨?_, frozen_of_row _ _ _ _ _ hh⟩
  rw [cell_of_row _ _ _ _ _ _ hh, Nat.zero_add]
  rw [rulesC_length, List.length_replicate] at hj
  rw [madeRules_get n j hj]
  have h : j = j / 2 * 2 ∨ j = j / 2 * 2 + 1 := by omega
  have hg := rulesC_get (List.replicate n ((⟨#[]⟩, ⟨#[]⟩) : R)) (j / 2) (⟨#[]⟩, ⟨#[]⟩) (by rw [List.getElem?_replicate, if_pos (by omega)])
  rcases h with h | h
  · rw [h]; exact hg.1.symm
  · rw [h]; exact hg.2.symm
theorem rulesC_append (a b : List R) : rulesC (a ++ b) = rulesC a ++ rulesC b := by simp [rulesC]
/-- Storing rule k into a list of rules, cell by cell. -/
theorem rulesC_set (l : List R) (k : Nat) (r : R) (hk : k < l.length) : ((rulesC l).set (k * 2) (.string r.1)).set (k * 2 + 1) (.string r.2) = rulesC (l.set k r) := by
  induction l generalizing k with
  | nil => simp at hk
  | cons a l ih =>
    cases k with
    | zero => rfl
    | succ k =>
      have := ih k (by simpa using hk)
      rw [show rulesC (a :: l) = .string a.1 :: .string a.2 :: rulesC l from rfl]
      rw [show (k + 1) * 2 = (k * 2) + 1 + 1 by omega]
      simp only [List.set_cons_succ]
      rw [this]; rfl
/-- The cells of rule k of a list of the call's own. -/
theorem Own.rule {B n g off c : Nat} {w : World} {l : List R} (h : Own B w (.slice (some ⟨g, off, none⟩) n c) 2 n (rulesC l)) {k : Nat} (hk : k < n) :
    B ≤ g ∧ g < w.heap.size ∧ ∃ r, l[k]? = some r ∧ w.cell? ⟨g, off + k * 2, none⟩ = some (.string r.1) ∧ w.cell? ⟨g, off + k * 2 + 1, none⟩ = some (.string r.2) ∧
      w.frozen? ⟨g, off + k * 2, none⟩ = false ∧ w.frozen? ⟨g, off + k * 2 + 1, none⟩ = false := by
  obtain ⟨h1, A', c', hv, hc, hm, h2⟩ := h
  obtain ⟨g', off', e, hg, hlt, r⟩ := h2 (by omega)
  have hA : A' = some ⟨g, off, none⟩ := by injection hv with a b d; exact a.symm
  rw [hA] at e
  obtain ⟨rfl, rfl⟩ : g = g' ∧ off = off' := by injection e with e; injection e with e1 e2; exact ⟨e1, e2⟩
  rw [rulesC_length] at h1
  have hl : k < l.length := by omega
  have hr : l[k]? = some l[k] := List.getElem?_eq_getElem hl
  obtain ⟨q1, q2⟩ := rulesC_get l k _ hr
  have r1 := r (k * 2) (by rw [rulesC_length]; omega)
  have r2 := r (k * 2 + 1) (by rw [rulesC_length]; omega)
  exact ⟨hg, hlt, l[k], hr, r1.1.trans q1, r2.1.trans q2, r1.2, r2.2⟩
theorem Own.formR {B n m : Nat} {w : World} {v : Value} {xs : List Value} (h : Own B w v m n xs) (hn : 0 < n) : ∃ g off c, v = .slice (some ⟨g, off, none⟩) n c := by
  obtain ⟨h1, A', c', hv, hc, hm, h2⟩ := h
  obtain ⟨g', off', e, _⟩ := h2 hn
  exact ⟨g', off', c', by rw [hv, e]⟩
theorem Own.bound {B n m : Nat} {w : World} {A : Option Addr} {c : Nat} {xs : List Value} (h : Own B w (.slice A n c) m n xs) : n ≤ c ∧ c ≤ maxLen := by
  obtain ⟨_, A', c', hv, hc, hm, _⟩ := h
  injection hv with _ _ e; subst e; exact ⟨hc, hm⟩
theorem Own.rlen {B n : Nat} {w : World} {v : Value} {l : List R} (h : Own B w v 2 n (rulesC l)) : l.length = n := by have := h.1; rw [rulesC_length] at this; omega

theorem take_set_rules (xs : List R) (n k : Nat) (s z : R) (hs : xs[k]? = some s) (hk : k < n) :
    (xs.take k ++ List.replicate (n - k) z).set k s = xs.take (k + 1) ++ List.replicate (n - (k + 1)) z := by
  have hk' := (List.getElem?_eq_some_iff.1 hs).1
  have he := (List.getElem?_eq_some_iff.1 hs).2
  rw [List.take_succ_eq_append_getElem hk', he, show n - k = (n - (k + 1)) + 1 by omega, List.replicate_succ]
  rw [List.set_append_right _ _ (by simp; omega)]
  have : k - (xs.take k).length = 0 := by simp; omega
  rw [this]
  simp
/-- Two rules' cells, told of one world. -/
def Two (w : World) (p p' : Addr) (r r' : R) : Prop :=
  w.cell? p = some (.string r.1) ∧ w.cell? ⟨p.block, p.off + 1, none⟩ = some (.string r.2) ∧ w.cell? p' = some (.string r'.1) ∧ w.cell? ⟨p'.block, p'.off + 1, none⟩ = some (.string r'.2)
theorem held4_keep {W W1 : World} {g g' o o' q q' : Nat} {a b a' b' : Value} {B : Nat} {w : World} (h : W.cell? ⟨g, o, none⟩ = some a ∧ W.cell? ⟨g, q, none⟩ = some b ∧ W.cell? ⟨g', o', none⟩ = some a' ∧ W.cell? ⟨g', q', none⟩ = some b' ∧ Below B w W) (hb : Below W.heap.size W W1) (hB : B ≤ w.heap.size) (hg : g < w.heap.size) (hg' : g' < w.heap.size) :
    W1.cell? ⟨g, o, none⟩ = some a ∧ W1.cell? ⟨g, q, none⟩ = some b ∧ W1.cell? ⟨g', o', none⟩ = some a' ∧ W1.cell? ⟨g', q', none⟩ = some b' ∧ Below B w W1 := by
  obtain ⟨h1, h2, h3, h4, h5⟩ := h
  have hs := h5.size
  exact ⟨(hb.cell (by show g < _; omega)).trans h1, (hb.cell (by show g < _; omega)).trans h2, (hb.cell (by show g' < _; omega)).trans h3, (hb.cell (by show g' < _; omega)).trans h4, h5.trans (hb.mono (by omega))⟩

set_option maxHeartbeats 400000 in
theorem eqRuleS_yes (A A' : Option Addr) (n c c' B B' : Nat) (l : List R) (w : World) (h : Own B w (.slice A n c) 2 n (rulesC l)) (h' : Own B' w (.slice A' n c') 2 n (rulesC l)) :
    Calls Tryd.prog 31 #[.slice A n c, .slice A' n c'] w fun e w' => e = .returned (.bool true) ∧ Below w.heap.size w w' := by
  have hmax := h.bound
  unfold maxLen at hmax
  by_cases hn : 0 < n
  · obtain ⟨g, off, c0, hv⟩ := h.formR hn
    obtain ⟨rfl, rfl⟩ : A = some ⟨g, off, none⟩ ∧ c = c0 := by injection hv with a _ b; exact ⟨a, b⟩
    obtain ⟨g', off', c0', hv'⟩ := h'.formR hn
    obtain ⟨rfl, rfl⟩ : A' = some ⟨g', off', none⟩ ∧ c' = c0' := by injection hv' with a _ b; exact ⟨a, b⟩
    have HO := Lib.hid h
    have HO' := Lib.hid h'
    clear h h' hv hv'
    have hg := (HO.out.rule hn).2.1
    have hg' := (HO'.out.rule hn).2.1
    go_enter Tryd.func31, Tryd.ntmps31
    go_wp2
    go_loopw [5] (fun i wr => ∃ k : Nat, k ≤ n ∧ i = .int .i64 k ∧ Below w.heap.size w wr) (fun i _ => n - (intOf i).toNat)
    case atStart => exact ⟨0, Nat.zero_le _, rfl, Below.refl _ _⟩
    case round =>
      obtain ⟨k, hk, rfl, hb⟩ := hrel
      by_cases hlt : k < n
      · obtain ⟨-, -, r, hr, x0, x1, -, -⟩ := (HO.out.below hb).rule hlt
        obtain ⟨-, -, r', hr', y0, y1, -, -⟩ := (HO'.out.below hb).rule hlt
        obtain rfl : r = r' := by rw [hr] at hr'; exact Option.some.inj hr'
        obtain ⟨u, v⟩ := r
        clear hr hr'
        go_wp2
        go_region_held3 (fun w' => w'.cell? ⟨g, off + k * 2, none⟩ = some (.string u) ∧ w'.cell? ⟨g, off + k * 2 + 1, none⟩ = some (.string v) ∧ w'.cell? ⟨g', off' + k * 2, none⟩ = some (.string u) ∧ w'.cell? ⟨g', off' + k * 2 + 1, none⟩ = some (.string v) ∧ Below w.heap.size w w')
          (first | exact ⟨x0, x1, y0, y1, hb.drew⟩ | exact held4_keep (by assumption) hb1 (Nat.le_refl _) hg hg')
          ((go_at_call 53; refine (eqRule_any u v u v _).mono ?_; rintro e w1 ⟨rfl, hb1⟩))
        all_goals go_wp2
        have hS := ‹_ ∧ _ ∧ _ ∧ _ ∧ Below w.heap.size w w1›
        go_roundw
        case rel => exact ⟨k + 1, by omega, by go_num, hS.2.2.2.2⟩
        case measure => simp [intOf]; omega
      · go_wp2
        go_ret
        exact ⟨rfl, hb⟩
  · obtain rfl : n = 0 := by omega
    go_enter Tryd.func31, Tryd.ntmps31
    go_wp2
    refine wp_loop_rounds 1 ?_
    rw [rounds_succ]
    go_wp2
    go_ret
    exact ⟨rfl, Below.refl _ _⟩

set_option maxHeartbeats 400000 in
theorem eqSystem_yes (k : Int) (A A' : Option Addr) (n c c' B B' : Nat) (l : List R) (w : World) (h : Own B w (.slice A n c) 2 n (rulesC l)) (h' : Own B' w (.slice A' n c') 2 n (rulesC l)) :
    Calls Tryd.prog 10 #[.agg #[.int .i64 k, .slice A n c], .agg #[.int .i64 k, .slice A' n c']] w fun e w' => e = .returned (.bool true) ∧ Below w.heap.size w w' := by
  have HO := Lib.hid (fun o1 o2 => h.below (bel2 w o1 o2))
  have HO' := Lib.hid (fun o1 o2 => h'.below (bel2 w o1 o2))
  clear h h'
  go_enter Tryd.func10, Tryd.ntmps10
  go_wp2_with fail
  refine (eqRuleS_yes _ _ _ _ _ _ _ l _ (HO.out _ _) (HO'.out _ _)).mono ?_
  rintro e w1 ⟨rfl, hb1⟩
  have hB := (bel2 w _ _).trans (hb1.mono (by simp; omega))
  clear hb1
  go_wp2
  go_ret
  exact ⟨rfl, hB⟩

def smallR (l : List R) : Prop := ∀ r ∈ l, r.1.size ≤ 1048576 ∧ r.2.size ≤ 1048576
theorem rulesSz_mem : ∀ (l : List R) (r : R), r ∈ l → r.1.size + r.2.size ≤ rulesSz l
  | [], r, h => by simp at h
  | a :: l, r, h => by
    show _ ≤ (List.map ruleSz (a :: l)).sum
    rw [List.map_cons, List.sum_cons]
    have hz : ruleSz a = a.1.size + a.2.size := rfl
    rcases List.mem_cons.1 h with rfl | h
    · omega
    · have := rulesSz_mem l r h
      unfold rulesSz at this
      omega
theorem small_of (l : List R) (h : rulesSz l ≤ 1048576) : smallR l := fun r hr => by have := rulesSz_mem l r hr; omega
theorem ownsRow_below {w w' : World} {base : Nat} {e : TypeId} {size : Nat} {v : Value} {n : Nat} {xs : List Value} (h : w.ownsRow base e size v n xs) (hb : Below w.heap.size w w') : w'.ownsRow base e size v n xs := by
  obtain ⟨hl, h2⟩ := h
  refine ⟨hl, ?_⟩
  rcases h2 with h2 | ⟨g, cap, cur, rfl, hg, hh, r⟩
  · exact Or.inl h2
  · refine Or.inr ⟨g, cap, cur, rfl, hg, ?_, r⟩
    have hlt : g < w.heap.size := by
      rcases Nat.lt_or_ge g w.heap.size with h | h
      · exact h
      · rw [Array.getElem?_eq_none h] at hh; cases hh
    exact (hb.block g hlt).trans hh
end Go.Proofs.YtlehdmflnglipaaDoor
