/- The program's FirstMap. -/
import Derived.Test.YtlgaihofaiigcaaDoorImplCount
import Derived.Test.YtlgaihofaiigcaaDoorImplSub3
namespace Go.Proofs.YtlgaihofaiigcaaDoor
open Go.RowKit Go.Shelf
attribute [local go_sem] Oper.semAt_some

theorem hits_mem {N K j : Nat} {xs : List Int} {l : List R} (hj : j < N ^ K) (h : mapB N K xs l j = true) : ∃ a : Nat, (hits N K xs l)[a]? = some j :=
  List.getElem?_of_mem (by unfold hits; rw [List.mem_filter, List.mem_range]; exact ⟨hj, h⟩)
theorem hits_lt {N K a b x y : Nat} {xs : List Int} {l : List R} (hab : a < b) (ha : (hits N K xs l)[a]? = some x) (hb : (hits N K xs l)[b]? = some y) : x < y := by
  have hp : (hits N K xs l).Pairwise (· < ·) := by unfold hits; exact List.pairwise_lt_range.filter _
  obtain ⟨h1, rfl⟩ := List.getElem?_eq_some_iff.1 ha
  obtain ⟨h2, rfl⟩ := List.getElem?_eq_some_iff.1 hb
  exact (List.pairwise_iff_getElem.1 hp) a b h1 h2 hab
theorem hits_first {N K i n : Nat} {xs : List Int} {l : List R} (hi : (hits N K xs l)[i]? = some n) (hb : ∀ j, j < i → (hits N K xs l)[j]? = some 0) : n < N ^ K ∧ mapB N K xs l n = true ∧ ∀ j, 0 < j → j < n → mapB N K xs l j = false := by
  have hm : n ∈ hits N K xs l := List.mem_of_getElem? hi
  unfold hits at hm
  rw [List.mem_filter, List.mem_range] at hm
  refine ⟨hm.1, hm.2, fun j h0 hjn => ?_⟩
  cases hp : mapB N K xs l j
  · rfl
  · obtain ⟨a, ha⟩ := hits_mem (show j < N ^ K by omega) hp
    rcases Nat.lt_trichotomy a i with h | h | h
    · rw [hb a h] at ha; injection ha with ha; omega
    · subst h; rw [hi] at ha; injection ha with ha; omega
    · have := hits_lt h hi ha; omega
theorem hits_none {N K : Nat} {xs : List Int} {l : List R} (hb : ∀ j, j < (hits N K xs l).length → (hits N K xs l)[j]? = some 0) : ∀ j, 0 < j → j < N ^ K → mapB N K xs l j = false := by
  intro j h0 hj
  cases hp : mapB N K xs l j
  · rfl
  · obtain ⟨a, ha⟩ := hits_mem hj hp
    rw [hb a (List.getElem?_eq_some_iff.1 ha).1] at ha; injection ha with ha; omega
theorem pos_take {L : List Nat} {j x : Nat} (hx : L[j]? = some x) : (∃ i ∈ L.take (j + 1), 0 < i) ↔ (∃ i ∈ L.take j, 0 < i) ∨ 0 < x := by
  rw [List.take_add_one, hx, Option.toList_some]
  simp only [List.mem_append, List.mem_singleton]
  constructor
  · rintro ⟨i, h | rfl, hp⟩
    · exact .inl ⟨i, h, hp⟩
    · exact .inr hp
  · rintro (⟨i, h, hp⟩ | hp)
    · exact ⟨i, .inl h, hp⟩
    · exact ⟨x, .inr rfl, hp⟩
set_option maxRecDepth 100000 in
set_option maxHeartbeats 800000 in
theorem maxInt_any (A : Option Addr) (n c B : Nat) (L : List Nat) (w : World) (h : Own B w (.slice A n c) 1 n (ints (nints L))) (hn : 0 < n) (hn2 : n ≤ 1048576) :
    Calls Tryd.prog 50 #[.slice A n c] w fun e w' => (∃ r : Nat, e = .returned (.int .i64 (r : Int)) ∧ (0 < r ↔ ∃ i ∈ L, 0 < i)) ∧ w = w' := by
  have hl : L.length = n := by have := h.ilen; rw [nints_length] at this; omega
  obtain ⟨g, off, c0, hv⟩ := h.formR hn
  obtain ⟨rfl, rfl⟩ : A = some ⟨g, off, none⟩ ∧ c = c0 := by injection hv with a _ b; exact ⟨a, b⟩
  have HC := Lib.hid (fun j x (hj : L[j]? = some x) => h.natI hj)
  obtain ⟨x0, hx0⟩ : ∃ x, L[0]? = some x := ⟨L[0]'(by omega), List.getElem?_eq_getElem _⟩
  obtain ⟨_, _, e0, -, y0⟩ := HC.out 0 x0 hx0
  injection e0 with e0; injection e0 with e1 e2
  subst e1 e2
  rw [Nat.add_zero] at y0
  have H0 := Lib.hid (pos_take hx0)
  have Hl := Lib.hid hl
  clear hv h hx0 hl
  go_enter Tryd.func50, Tryd.ntmps50
  go_wp2_with fail
  go_loop [3, 4] (fun r' j' => ∃ j r : Nat, j' = .int .i64 j ∧ r' = .int .i64 r ∧ 1 ≤ j ∧ j ≤ n ∧ Hid (0 < r ↔ ∃ i ∈ L.take j, 0 < i)) (fun _ j' => n - (intOf j').toNat)
  case atStart => exact ⟨1, x0, rfl, rfl, Nat.le_refl _, hn, by show _ ↔ _; rw [H0.out]; simp⟩
  case round =>
    obtain ⟨j, r, rfl, rfl, hj1, hj, HR⟩ := hrel
    by_cases hlt : j < n
    · obtain ⟨x, hx⟩ : ∃ x, L[j]? = some x := ⟨L[j]'(by have := Hl.out; omega), List.getElem?_eq_getElem _⟩
      obtain ⟨_, _, e0, -, y1⟩ := HC.out j x hx
      injection e0 with e0; injection e0 with e1 e2
      subst e1 e2
      have HP := Lib.hid (pos_take hx)
      clear hx
      by_cases hrx : r < x
      · have hrx1 : (r : Int) < (x : Int) := by omega
        have hrx2 : (r : Int) ≤ (x : Int) := by omega
        have hmx : max (r : Int) (x : Int) = (x : Int) := by omega
        have HR1 : Hid (0 < x ↔ ∃ i ∈ L.take (j + 1), 0 < i) := by show _ ↔ _; rw [HP.out]; exact ⟨fun h => .inr h, fun _ => by omega⟩
        go_wp2_with fail
        go_round
        case rel => exact ⟨j + 1, x, by go_num, rfl, by omega, by omega, HR1⟩
        case measure => simp [intOf]; omega
      · have hrx1 : ¬ (r : Int) < (x : Int) := by omega
        have hrx2 : (x : Int) ≤ (r : Int) := by omega
        have hmx : max (r : Int) (x : Int) = (r : Int) := by omega
        have HR1 : Hid (0 < r ↔ ∃ i ∈ L.take (j + 1), 0 < i) := by show _ ↔ _; rw [HP.out, ← HR.out]; exact ⟨fun h => .inl h, fun h => by rcases h with h | h <;> omega⟩
        go_wp2_with fail
        go_round
        case rel => exact ⟨j + 1, r, by go_num, rfl, by omega, by omega, HR1⟩
        case measure => simp [intOf]; omega
    · obtain rfl : n = j := by omega
      have HF : Hid (0 < r ↔ ∃ i ∈ L, 0 < i) := by have h2 := HR.out; rw [List.take_of_length_le (by rw [Hl.out]; exact Nat.le_refl _)] at h2; exact h2
      go_wp2_with fail
      go_ret
      exact ⟨⟨r, rfl, HF.out⟩, rfl⟩
theorem own_put {B m n : Nat} {W : World} {v : Value} {xs : List Value} (h : Own B W v m n xs) {p : Nat} (o : Obj) (hp : p < B) : Own B (W.putObj p o) v m n xs := by
  obtain ⟨h1, A, c, hv, hc, hm, h2⟩ := h
  refine ⟨h1, A, c, hv, hc, hm, fun hn => ?_⟩
  obtain ⟨g, off, e, hg, hlt, r⟩ := h2 hn
  have hh : (W.putObj p o).heap[g]? = W.heap[g]? := World.putObj_heap_other (by omega)
  exact ⟨g, off, e, hg, Nat.lt_of_lt_of_le hlt (grownBy_putObj' W p o).size, fun j hj => ⟨(World.cell?_of_block (w := W) (a := ⟨g, off + j, none⟩) hh).trans (r j hj).1, (World.frozen?_of_block (w := W) (a := ⟨g, off + j, none⟩) hh).trans (r j hj).2⟩⟩
/-- How FirstMap's world lies between two rounds: b4 and b5 are its results. -/
def FstI (N K : Nat) (xs : List Int) (l : List R) (w : World) (b4 b5 i : Nat) (W : World) : Prop := Blk W b4 22 #[.slice none 0 0] ∧ Blk W b5 4 #[.bool false] ∧ Below w.heap.size w W ∧ ∀ j, j < i → (hits N K xs l)[j]? = some 0
def FstX (N K : Nat) (xs : List Int) (l : List R) (w : World) (B b4 b5 : Nat) (c : Code) (i : Nat) (W : World) : Prop :=
  c = .ret ∧ ∃ (n : Nat) (A : Option Addr) (cc : Nat), (hits N K xs l)[i]? = some n ∧ 0 < n ∧ Blk W b4 22 #[.slice A K cc] ∧ Blk W b5 4 #[.bool true] ∧ Own B W (.slice A K cc) 1 K (ints (nints (imgsAt N K n))) ∧ Below w.heap.size w W ∧ ∀ j, j < i → (hits N K xs l)[j]? = some 0
set_option maxRecDepth 100000 in
set_option maxHeartbeats 2000000 in
theorem implFirstMap (k : Int) (Z : Option Addr) (nz cz Bz : Nat) (l : List R) (q : Int) (A : Option Addr) (n c B : Nat) (xs : List Int) (w : World) (hZ : Own Bz w (.slice Z nz cz) 2 nz (rulesC l)) (hsm : smallR l) (h : Own B w (.slice A n c) 1 n (ints xs)) (hlet : Let w) :
    Calls Tryd.prog 24 #[.agg #[.int .i64 k, .slice Z nz cz], tabV q A n c] w fun e w' => (∃ v, e = .returned (.tuple #[v, .bool (firstMap k l q xs).2]) ∧ Own w.heap.size w' v 1 (firstMap k l q xs).1.length (ints (firstMap k l q xs).1)) ∧ Below w.heap.size w w' := by
  have b0 := bel4 w (.cells #[.int .i64 k, .slice Z nz cz] 41) (.cells #[.int .i64 q, .slice A n c] 28) (.cells #[.slice none 0 0] 22) (.cells #[.bool false] 4)
  have HZ := Lib.hid (fun (w' : World) (hb : Below w.heap.size w w') => hZ.below hb)
  have HO := Lib.hid (h.below b0)
  have HL := Lib.hid (hlet.keep b0 (Nat.le_refl _))
  have X0 := Lib.hid ((((Blk.new1 w #[.int .i64 k, .slice Z nz cz] 41).alloc (.cells #[.int .i64 q, .slice A n c] 28)).alloc (.cells #[.slice none 0 0] 22)).alloc (.cells #[.bool false] 4))
  have Y0 := Lib.hid (((Blk.new2 w (.cells #[.int .i64 k, .slice Z nz cz] 41) #[.int .i64 q, .slice A n c] 28).alloc (.cells #[.slice none 0 0] 22)).alloc (.cells #[.bool false] 4))
  have R40 := Lib.hid ((Blk.new3 w (.cells #[.int .i64 k, .slice Z nz cz] 41) (.cells #[.int .i64 q, .slice A n c] 28) #[.slice none 0 0] 22).alloc (.cells #[.bool false] 4))
  have R50 := Lib.hid (Blk.new4 w (.cells #[.int .i64 k, .slice Z nz cz] 41) (.cells #[.int .i64 q, .slice A n c] 28) (.cells #[.slice none 0 0] 22) #[.bool false] 4)
  have hs0 : ((((w.alloc (.cells #[.int .i64 k, .slice Z nz cz] 41)).alloc (.cells #[.int .i64 q, .slice A n c] 28)).alloc (.cells #[.slice none 0 0] 22)).alloc (.cells #[.bool false] 4)).heap.size = w.heap.size + 4 := by simp
  have Hsm := Lib.hid hsm
  clear hZ h hlet hsm
  refine (callsIn_wide (n := 6)).1 ?_
  refine callsIn_of_wp_marks Tryd.func24 rfl trivial ?_ rfl
  simp only [Tryd.ntmps24, List.size_toArray, List.length_cons, List.length_nil, Nat.reduceAdd, Nat.reduceSub, Array.replicate_succ, Array.replicate_zero, List.push_toArray, List.append_toArray, List.nil_append, List.cons_append]
  obtain ⟨x0, x1, -, -, xl⟩ := X0.out.two
  obtain ⟨y0, y1, -, -, yl⟩ := Y0.out.two
  gi_wp2_with fail
  generalize (((w.alloc (.cells #[.int .i64 k, .slice Z nz cz] 41)).alloc (.cells #[.int .i64 q, .slice A n c] 28)).alloc (.cells #[.slice none 0 0] 22)).alloc (.cells #[.bool false] 4) = w0 at *
  refine ⟨trivial, (callsIn_wide.2 (monoidFor_any k Z nz cz Bz l q A n c B xs _ (HZ.out _ b0) Hsm.out HO.out HL.out)).mono ?_⟩
  rintro e w1 ⟨hm, hb1⟩
  have b1 := b0.trans (hb1.mono b0.size)
  have X1 := Lib.hid (X0.out.below hb1 X0.out.lt)
  have R41 : Hid (Blk w1 (w.heap.size + 2) 22 #[.slice none 0 0]) := R40.out.below hb1 R40.out.lt
  have R51 : Hid (Blk w1 (w.heap.size + 3) 4 #[.bool false]) := R50.out.below hb1 R50.out.lt
  have hw1s : w.heap.size + 4 ≤ w1.heap.size := by have := hb1.size; omega
  clear hb1 X0 Y0 HO HL R40 R50 x0 x1 xl y0 y1 yl
  rcases hm with ⟨K, N, g, rfl, rfl, hok, hT, rfl, hM⟩ | ⟨hok, rfl⟩
  · obtain ⟨x0, x1, -, -, xl⟩ := X1.out.two
    have HT := Lib.hid hT
    have HM1 := Lib.hid hM
    have Hok := Lib.hid hok
    clear hT hM hok
    gi_wp2_with fail
    refine ⟨trivial, (callsIn_wide.2 (maps_any g K Z nz cz _)).mono ?_⟩
    rintro e w3 ⟨rfl, hw3⟩
    have hsz : w3.heap.size = w1.heap.size + 2 := by rw [hw3]; simp
    have b3 : Below w1.heap.size w1 w3 := by rw [hw3]; exact bel2 _ _ _
    have bw3 := b1.trans (b3.mono b1.size)
    have R4 := Lib.hid (R41.out.below b3 R41.out.lt)
    have R5 := Lib.hid (R51.out.below b3 R51.out.lt)
    have R1 : Blk w3 w1.heap.size 71 #[.pointer (some ⟨g, 0, none⟩)] := by
      rw [hw3]; exact (Blk.new1 w1 #[.pointer (some ⟨g, 0, none⟩)] 71).alloc _
    have R2 : Blk w3 (w1.heap.size + 1) 41 #[.int .i64 (K : Int), .slice Z nz cz] := by
      rw [hw3]; exact Blk.new2 w1 _ _ _
    have hgl := HM1.out.lt
    have hZ1 := HZ.out _ b1
    have hZw := HZ.out w (Below.refl _ _)
    have hok2 := mapsOk_iff Hok.out
    have hP : N ^ K ≤ 4096 := by obtain ⟨K', N', e1, e2, -, -, h2⟩ := hok2; obtain rfl : K = K' := by omega
                                 obtain rfl : N = N' := by omega
                                 exact h2
    have hrul : rulesOk K l = true := by obtain ⟨K', N', e1, e2, h2, -, -⟩ := hok2; rw [e1]; exact h2
    have hk14 := rulesOk_letters hrul
    have hg4 : g ≠ w.heap.size + 2 ∧ g ≠ w.heap.size + 3 := by
      have h0 := HM1.out.size
      refine ⟨fun e => ?_, fun e => ?_⟩
      · have h4 : w1.cell? ⟨w.heap.size + 2, 0, none⟩ = some (.slice none 0 0) := R41.out.cell 0
        rw [e, h4] at h0; simp at h0
      · have h4 : w1.cell? ⟨w.heap.size + 3, 0, none⟩ = some (.bool false) := R51.out.cell 0
        rw [e, h4] at h0; simp at h0
    have hS := maps1_tells 5 (by omega) K N g Z nz cz Bz xs l (w1.heap.size + 1) w1.heap.size (fun b => b < w3.heap.size ∧ b ≠ w.heap.size + 2 ∧ b ≠ w.heap.size + 3) w3 hrul HT.out (fun b hb => hb.1) R2 R1 (HM1.out.below b3) (HZ.out _ bw3) ⟨by omega, by omega, by omega⟩ ⟨by omega, by omega, by omega⟩ ⟨by omega, hg4.1, hg4.2⟩ (fun hn => by have h2 := (hZw.blk_lt hn).2; exact ⟨by have := b1.size; omega, by omega, by omega⟩)
    have hKl := Lib.hid (fun j => imgsAt_length N K j)
    have HPos := Lib.hid (fun j (hj : j < N ^ K) (h0 : 0 < j) => imgsAt_pos HT.out.lo K j hj h0)
    have HZero := Lib.hid (imgsAt_zero N K)
    have hsz1 : w1.heap.size + 2 ≤ w3.heap.size := by omega
    have hsz2 : w3.heap.size ≤ w1.heap.size + 2 := by omega
    clear hw3 x0 x1 xl hok2 R41 R51 X1 hZ1 hZw hsz hs0
    gi_wp2_with fail
    refine rangeC_tells rfl (by omega) (gf := 74) (lb := #[.pointer (some ⟨w1.heap.size + 1, 0, none⟩), .pointer (some ⟨w1.heap.size, 0, none⟩)]) rfl trivial (enters_of Tryd.func74 (by kernel_rfl) rfl)
      hS (Below.refl _ _) (fun B i args X he => by rw [he.1]; rfl) (fun B i args X Y he hk => ⟨he.1, by obtain ⟨-, m, h1, h2⟩ := he; exact ⟨m, h1, (hk.block _ (.inr rfl)).trans h2⟩⟩) (by unfold mapD; rintro (⟨h1, -⟩ | h1) <;> omega)
      (FstI N K xs l w (w.heap.size + 2) (w.heap.size + 3)) (FstX N K xs l w (w3.heap.size + 2) (w.heap.size + 2) (w.heap.size + 3)) (fun i X Y h ho => ⟨ownC_blk h.1 (by omega) ho, ownC_blk h.2.1 (by omega) ho, ownC_bel h.2.2.1 (by omega) h.2.2.1.size ho, h.2.2.2⟩)
      (fun i X p o h hp1 hp2 => ⟨(World.putObj_heap_other (by omega)).trans h.1, (World.putObj_heap_other (by omega)).trans h.2.1, put_belC h.2.2.1 o (by omega), h.2.2.2⟩)
      (fun c i X p o h hp1 hp2 => by
        obtain ⟨e, m, A9, c9, h1, h2, h3, h4, h5, h6, h7⟩ := h
        exact ⟨e, m, A9, c9, h1, h2, (World.putObj_heap_other (by omega)).trans h3, (World.putObj_heap_other (by omega)).trans h4, own_put h5 o (by omega), put_belC h6 o (by omega), h7⟩)
      (fun o => ⟨(R4.out.alloc _).alloc _, (R5.out.alloc _).alloc _, bw3.trans ((bel2 w3 _ _).mono bw3.size), fun j hj => by omega⟩)
      (fun args => { tmps := #[.agg #[.int .i64 (K : Int), .slice Z nz cz], tabV (N : Int) A n c, .pointer (some ⟨w.heap.size, 0, none⟩), .pointer (some ⟨w.heap.size + 1, 0, none⟩), .pointer (some ⟨w.heap.size + 2, 0, none⟩), .pointer (some ⟨w.heap.size + 3, 0, none⟩), .pointer (some ⟨g, 0, none⟩), .bool true, args.getD 0 undef, .tuple #[.pointer (some ⟨g, 0, none⟩), .bool true], .agg #[.int .i64 (K : Int), .slice Z nz cz], .agg #[.int .i64 (N : Int), .slice A n c], .tuple #[.pointer (some ⟨g, 0, none⟩), .bool true], .pointer (some ⟨g, 0, none⟩), .bool true, .bool true, .bool false, .pointer (some ⟨g, 0, none⟩), .agg #[.int .i64 (K : Int), .slice Z nz cz], .func (.func 74) #[] #[.pointer (some ⟨w1.heap.size + 1, 0, none⟩), .pointer (some ⟨w1.heap.size, 0, none⟩)], args.getD 0 undef, undef, undef, undef, undef, undef], defers := [] })
      ?assign ?body ?done ?stop
    case assign =>
      rintro lp args W K1 hsa hK
      obtain ⟨x0, rfl⟩ : ∃ x, args = #[x] := by
        obtain ⟨ys, e⟩ : ∃ ys, args.toList = ys := ⟨_, rfl⟩
        have h2 : args.toList.length = 1 := by simpa using hsa
        obtain ⟨x, hx⟩ := List.length_eq_one_iff.1 h2
        exact ⟨x, Array.toList_inj.1 hx⟩
      gi_wp2_with fail
      simpa using hK
    case body =>
      rintro lp i args W ⟨hb4, hb5, hw, hz⟩ ⟨rfl, m, hm, hL⟩ hlt hWs
      have HL2 := Lib.hid (hL.own (by rw [hKl.out]; unfold maxLen; omega) (Nat.le_refl (w3.heap.size + 2)))
      rw [hKl.out] at HL2
      have HB4 := Lib.hid hb4
      have HB5 := Lib.hid hb5
      have HW := Lib.hid hw
      have Hm := Lib.hid hm
      have Hz := Lib.hid hz
      have hmK : m < N ^ K := by
        have h2 : m ∈ hits N K xs l := List.mem_of_getElem? hm
        unfold hits at h2
        rw [List.mem_filter, List.mem_range] at h2
        exact h2.1
      clear hb4 hb5 hw hm hz hL
      gi_wp2_with fail
      refine ⟨trivial, ((callsIn_wide.2 (maxInt_any _ K K _ (imgsAt N K m) W HL2.out (by omega) (by omega))).inRound lp).mono ?_⟩
      rintro y w5 ⟨⟨r, rfl, hr⟩, rfl⟩
      rcases Nat.eq_zero_or_pos m with h0 | h0
      · have hr0 : r = 0 := by
          rcases Nat.eq_zero_or_pos r with e | e
          · exact e
          · obtain ⟨x, hx, hp⟩ := hr.1 e
            rw [h0, HZero.out] at hx
            have := List.eq_of_mem_replicate hx
            omega
        subst hr0
        have Hz1 : Hid (∀ j, j < i + 1 → (hits N K xs l)[j]? = some 0) := fun j hj => by
          by_cases e : j = i
          · subst e; rw [Hm.out, h0]
          · exact Hz.out j (by omega)
        clear hr
        gi_wp2_with fail
        exact ⟨rfl, rfl, KeepD.refl _ _, HB4.out, HB5.out, HW.out, Hz1.out⟩
      · have hr0 : 0 < r := hr.2 (HPos.out m hmK h0)
        clear hr
        gi_wp2_with fail
        refine ⟨trivial, ((callsIn_wide.2 (cloneInt_any _ K K _ _ W (by omega) (by omega) HL2.out)).inRound lp).mono ?_⟩
        rintro y w6 ⟨v6, rfl, r6, hb6⟩
        obtain ⟨A6, c6, rfl⟩ := (Own.of_row r6).form
        have HO6 := Lib.hid ((Own.of_row r6).mono (show w3.heap.size + 2 ≤ W.heap.size from hWs))
        have C4 := Lib.hid (HB4.out.below hb6 HB4.out.lt)
        have C5 := Lib.hid (HB5.out.below hb6 HB5.out.lt)
        have z4 : w6.cell? ⟨w.heap.size + 2, 0, none⟩ = some (.slice none 0 0) := C4.out.cell 0
        have z5 : w6.cell? ⟨w.heap.size + 3, 0, none⟩ = some (.bool false) := C5.out.cell 0
        have f4 : w6.frozen? ⟨w.heap.size + 2, 0, none⟩ = false := C4.out.frozen 0
        have f5 : w6.frozen? ⟨w.heap.size + 3, 0, none⟩ = false := C5.out.frozen 0
        have D5 := Lib.hid (C5.out.far (p := ⟨w.heap.size + 2, 0, none⟩) (by show w.heap.size + 3 ≠ w.heap.size + 2; omega) (.slice A6 K c6))
        have z6 : (w6.setCell ⟨w.heap.size + 2, 0, none⟩ (.slice A6 K c6)).cell? ⟨w.heap.size + 3, 0, none⟩ = some (.bool false) := D5.out.cell 0
        have f6 : (w6.setCell ⟨w.heap.size + 2, 0, none⟩ (.slice A6 K c6)).frozen? ⟨w.heap.size + 3, 0, none⟩ = false := D5.out.frozen 0
        have E4 := Lib.hid ((C4.out.set_ 0 (.slice A6 K c6)).far (p := ⟨w.heap.size + 3, 0, none⟩) (by show w.heap.size + 2 ≠ w.heap.size + 3; omega) (.bool true))
        have E5 := Lib.hid (D5.out.set_ 0 (.bool true))
        have HO7 := Lib.hid ((HO6.out.far (p := ⟨w.heap.size + 2, 0, none⟩) (by show w.heap.size + 2 < w3.heap.size + 2; omega) (.slice A6 K c6)).far (p := ⟨w.heap.size + 3, 0, none⟩) (by show w.heap.size + 3 < w3.heap.size + 2; omega) (.bool true))
        have hWw := HW.out.size
        have HB7 := Lib.hid (((HW.out.trans (hb6.mono hWw)).setCell (p := ⟨w.heap.size + 2, 0, none⟩) (by show w.heap.size ≤ w.heap.size + 2; omega) (.slice A6 K c6)).setCell (p := ⟨w.heap.size + 3, 0, none⟩) (by show w.heap.size ≤ w.heap.size + 3; omega) (.bool true))
        have HF7 : Hid (∀ b, b < W.heap.size → b ≠ w.heap.size + 2 → b ≠ w.heap.size + 3 → ((w6.setCell ⟨w.heap.size + 2, 0, none⟩ (.slice A6 K c6)).setCell ⟨w.heap.size + 3, 0, none⟩ (.bool true)).heap[b]? = W.heap[b]?) := fun b h1 h2 h3 =>
          (Below.heap_setCell _ _ _ b h3).trans ((Below.heap_setCell _ _ _ b h2).trans (hb6.block b h1))
        clear r6 hb6
        gi_wp2_with fail
        exact ⟨HF7.out _ (by omega) (by omega) (by omega), HF7.out _ (by omega) (by omega) (by omega), rfl, m, A6, c6, Hm.out, h0, E4.out, E5.out, HO7.out, HB7.out, Hz.out⟩
    case done =>
      rintro W ⟨h4, h5, hw, hz⟩ hK
      have He := Lib.hid (firstMap_none Hok.out (hits_none hz))
      have z4 : W.cell? ⟨w.heap.size + 2, 0, none⟩ = some (.slice none 0 0) := h4.cell 0
      have z5 : W.cell? ⟨w.heap.size + 3, 0, none⟩ = some (.bool false) := h5.cell 0
      have f4 : W.frozen? ⟨w.heap.size + 2, 0, none⟩ = false := h4.frozen 0
      have f5 : W.frozen? ⟨w.heap.size + 3, 0, none⟩ = false := h5.frozen 0
      have D5 := Lib.hid (h5.far (p := ⟨w.heap.size + 2, 0, none⟩) (by show w.heap.size + 3 ≠ w.heap.size + 2; omega) (.slice none 0 0))
      have z6 : (W.setCell ⟨w.heap.size + 2, 0, none⟩ (.slice none 0 0)).cell? ⟨w.heap.size + 3, 0, none⟩ = some (.bool false) := D5.out.cell 0
      have f6 : (W.setCell ⟨w.heap.size + 2, 0, none⟩ (.slice none 0 0)).frozen? ⟨w.heap.size + 3, 0, none⟩ = false := D5.out.frozen 0
      have E4 := Lib.hid ((h4.set_ 0 (.slice none 0 0)).far (p := ⟨w.heap.size + 3, 0, none⟩) (by show w.heap.size + 2 ≠ w.heap.size + 3; omega) (.bool false))
      have E5 := Lib.hid (D5.out.set_ 0 (.bool false))
      have hK' := Lib.hid ((Below.heap_setCell (W.setCell ⟨w.heap.size + 2, 0, none⟩ (.slice none 0 0)) ⟨w.heap.size + 3, 0, none⟩ (.bool false) w3.heap.size (by show w3.heap.size ≠ w.heap.size + 3; omega)).trans ((Below.heap_setCell W ⟨w.heap.size + 2, 0, none⟩ (.slice none 0 0) w3.heap.size (by show w3.heap.size ≠ w.heap.size + 2; omega)).trans hK))
      have HB7 := Lib.hid ((hw.setCell (p := ⟨w.heap.size + 2, 0, none⟩) (by show w.heap.size ≤ w.heap.size + 2; omega) (.slice none 0 0)).setCell (p := ⟨w.heap.size + 3, 0, none⟩) (by show w.heap.size ≤ w.heap.size + 3; omega) (.bool false))
      clear h4 h5 hw hz
      gi_wp2_with fail
      refine ⟨by simp, .inl ⟨_, _, rfl, run_takeDeferred hK'.out, ?_⟩⟩
      have c4 : Blk (((W.setCell ⟨w.heap.size + 2, 0, none⟩ (.slice none 0 0)).setCell ⟨w.heap.size + 3, 0, none⟩ (.bool false)).putObj w3.heap.size (.deferred none)) (w.heap.size + 2) 22 #[.slice none 0 0] := (World.putObj_heap_other (by omega)).trans E4.out
      have c5 : Blk (((W.setCell ⟨w.heap.size + 2, 0, none⟩ (.slice none 0 0)).setCell ⟨w.heap.size + 3, 0, none⟩ (.bool false)).putObj w3.heap.size (.deferred none)) (w.heap.size + 3) 4 #[.bool false] := (World.putObj_heap_other (by omega)).trans E5.out
      have d4 := c4.cell 0
      have d5 := c5.cell 0
      refine ⟨.tuple #[.slice none 0 0, .bool false], ?_, ⟨_, ret_vb (by rw [He.out]), by rw [He.out]; exact Own.none_⟩, put_belC HB7.out _ (by omega)⟩
      simp [results, Tryd.f24, go_sem, d4, d5]
    case stop =>
      rintro c i W hi ⟨rfl, m, A9, c9, h1, h2, h3, h4, h5, h6, h7⟩ hK
      obtain ⟨g1, g2, g3⟩ := hits_first h1 h7
      have He := Lib.hid (firstMap_at Hok.out h2 g1 g2 g3)
      have HO9 := Lib.hid (own_put (p := w3.heap.size) h5 (.deferred none) (by omega))
      have HB9 := Lib.hid (put_belC (p := w3.heap.size) h6 (.deferred none) (by omega))
      have c4 : Blk (W.putObj w3.heap.size (.deferred none)) (w.heap.size + 2) 22 #[.slice A9 K c9] := (World.putObj_heap_other (by omega)).trans h3
      have c5 : Blk (W.putObj w3.heap.size (.deferred none)) (w.heap.size + 3) 4 #[.bool true] := (World.putObj_heap_other (by omega)).trans h4
      have d4 := c4.cell 0
      have d5 := c5.cell 0
      clear g1 g2 g3 h1 h2 h3 h4 h5 h6 h7 c4 c5
      gi_wp2_with fail
      refine ⟨by simp, .inl ⟨_, _, rfl, run_takeDeferred hK, ?_⟩⟩
      refine ⟨.tuple #[.slice A9 K c9, .bool true], ?_, ⟨_, ret_vb (by rw [He.out]), ?_⟩, HB9.out⟩
      · simp [results, Tryd.f24, go_sem, d4, d5]
      · rw [He.out]
        dsimp only
        rw [nints_length, hKl.out]
        exact HO9.out.mono (by omega)
  · have He := Lib.hid (firstMap_no hok)
    clear hok
    have y4 := R41.out.cell 0
    have y5 := R51.out.cell 0
    have z4 := R41.out.frozen 0
    have z5 := R51.out.frozen 0
    have q2 := ((R41.out.set_ 0 (.slice none 0 0)).far (p := ⟨w.heap.size + 3, 0, none⟩) (by show w.heap.size + 2 ≠ w.heap.size + 3; omega) (.bool false)).cell 0
    have q3 := ((R51.out.far (p := ⟨w.heap.size + 2, 0, none⟩) (by show w.heap.size + 3 ≠ w.heap.size + 2; omega) (.slice none 0 0)).set_ 0 (.bool false)).cell 0
    gi_wp2_with fail
    refine ⟨.tuple #[.slice none 0 0, .bool false], ?_, ⟨_, ret_vb (by rw [He.out]), by rw [He.out]; exact Own.none_⟩, (b1.setCell (p := ⟨w.heap.size + 2, 0, none⟩) (by show w.heap.size ≤ w.heap.size + 2; omega) _).setCell (p := ⟨w.heap.size + 3, 0, none⟩) (by show w.heap.size ≤ w.heap.size + 3; omega) _⟩
    simp [results, Tryd.f24, go_sem, q2, q3]
end Go.Proofs.YtlgaihofaiigcaaDoor
