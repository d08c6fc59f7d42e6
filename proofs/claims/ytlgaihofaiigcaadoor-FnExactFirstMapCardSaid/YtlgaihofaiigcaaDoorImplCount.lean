/- The program's CountMaps. -/
import Derived.Test.YtlgaihofaiigcaaDoorMapsSeq
namespace Go.Proofs.YtlgaihofaiigcaaDoor
open Go.RowKit Go.Shelf
attribute [local go_sem] Oper.semAt_some

theorem ownC_blk {B g : Nat} {t : TypeId} {cs : Array Value} {X Y : World} (h : Blk X g t cs) (hg : g < B) (ho : OwnC B X Y) : Blk Y g t cs := by
  obtain ⟨S, ht, hS⟩ := ho
  exact ht.blk h (fun hm => by have := (hS _ hm).1; omega)
theorem ownC_bel {B B0 : Nat} {X Y w : World} (h : Below B0 w X) (hB : B0 ≤ B) (hX : B0 ≤ X.heap.size) (ho : OwnC B X Y) : Below B0 w Y := by
  obtain ⟨S, ht, hS⟩ := ho
  exact h.trans (ht.below (fun b hb => by have := (hS b hb).1; omega) hX)
theorem put_belC {B0 : Nat} {w X : World} {p : Nat} (h : Below B0 w X) (o : Obj) (hp : B0 ≤ p) : Below B0 w (X.putObj p o) :=
  h.trans ⟨rfl, rfl, rfl, (grownBy_putObj' X p o).size, fun k hk => World.putObj_heap_other (by omega)⟩
/-- How CountMaps's world lies between two rounds. -/
def CntI (w : World) (cb i : Nat) (W : World) : Prop := Blk W cb 3 #[.int .i64 (i : Int)] ∧ Below w.heap.size w W
theorem hits_len (N K : Nat) (xs : List Int) (l : List R) : (hits N K xs l).length = (pick (mapB N K xs l) (N ^ K)).length := by unfold hits pick; rw [List.length_map]
theorem hits_le (N K : Nat) (xs : List Int) (l : List R) : (hits N K xs l).length ≤ N ^ K := by rw [hits_len]; exact pick_len _ _
set_option maxRecDepth 100000 in
set_option maxHeartbeats 2000000 in
theorem implCountMaps (k : Int) (Z : Option Addr) (nz cz Bz : Nat) (l : List R) (q : Int) (A : Option Addr) (n c B : Nat) (xs : List Int) (w : World) (hZ : Own Bz w (.slice Z nz cz) 2 nz (rulesC l)) (hsm : smallR l) (h : Own B w (.slice A n c) 1 n (ints xs)) (hlet : Let w) :
    Calls Tryd.prog 22 #[.agg #[.int .i64 k, .slice Z nz cz], tabV q A n c] w fun e w' => e = .returned (.int .i64 (countMaps k l q xs)) ∧ Below w.heap.size w w' := by
  have b0 := bel2 w (.cells #[.int .i64 k, .slice Z nz cz] 41) (.cells #[.int .i64 q, .slice A n c] 28)
  have HZ := Lib.hid (fun (w' : World) (hb : Below w.heap.size w w') => hZ.below hb)
  have HO := Lib.hid (h.below b0)
  have HL := Lib.hid (hlet.keep b0 (Nat.le_refl _))
  have X0 := Lib.hid ((Blk.new1 w #[.int .i64 k, .slice Z nz cz] 41).alloc (.cells #[.int .i64 q, .slice A n c] 28))
  have Hsm := Lib.hid hsm
  clear hZ h hlet hsm
  refine (callsIn_wide (n := 6)).1 ?_
  refine callsIn_of_wp_marks Tryd.func22 rfl trivial ?_ rfl
  simp only [Tryd.ntmps22, List.size_toArray, List.length_cons, List.length_nil, Nat.reduceAdd, Nat.reduceSub, Array.replicate_succ, Array.replicate_zero, List.push_toArray, List.append_toArray, List.nil_append, List.cons_append]
  gi_wp2_with fail
  generalize (w.alloc (.cells #[.int .i64 k, .slice Z nz cz] 41)).alloc (.cells #[.int .i64 q, .slice A n c] 28) = w0 at *
  refine ⟨trivial, (callsIn_wide.2 (monoidFor_any k Z nz cz Bz l q A n c B xs _ (HZ.out _ b0) Hsm.out HO.out HL.out)).mono ?_⟩
  rintro e w1 ⟨hm, hb1⟩
  have b1 := b0.trans (hb1.mono b0.size)
  have X1 := Lib.hid (X0.out.below hb1 X0.out.lt)
  clear hb1 X0 HO HL
  rcases hm with ⟨K, N, g, rfl, rfl, hok, hT, rfl, hM⟩ | ⟨hok, rfl⟩
  · obtain ⟨x0, x1, -, -, xl⟩ := X1.out.two
    have HT := Lib.hid hT
    have HM1 := Lib.hid hM
    have Hok := Lib.hid hok
    have He := Lib.hid (countMaps_yes hok)
    have hcb := Lib.hid (Blk.new1 w1 #[.int .i64 0] 3)
    have bc := bel1 w1 (.cells #[.int .i64 0] 3)
    have hs1 : (w1.alloc (.cells #[.int .i64 0] 3)).heap.size = w1.heap.size + 1 := by simp
    have HX2 := Lib.hid (X1.out.alloc (.cells #[.int .i64 0] 3))
    clear hT hM hok
    gi_wp2_with fail
    refine ⟨trivial, (callsIn_wide.2 (maps_any g K Z nz cz _)).mono ?_⟩
    rintro e w3 ⟨rfl, hw3⟩
    have hsz : w3.heap.size = w1.heap.size + 3 := by rw [hw3]; simp
    have bc3 : Below (w1.heap.size + 1) (w1.alloc (.cells #[.int .i64 0] 3)) w3 := by
      rw [hw3, ← hs1]; exact bel2 _ _ _
    have b3 : Below w1.heap.size w1 w3 := bc.trans (bc3.mono (by omega))
    have bw3 := b1.trans (b3.mono b1.size)
    have hw1s := b1.size
    have R0 : Blk w3 w1.heap.size 3 #[.int .i64 0] := hcb.out.below bc3 (by omega)
    have R1 : Blk w3 (w1.heap.size + 1) 71 #[.pointer (some ⟨g, 0, none⟩)] := by
      rw [hw3]
      have h2 := (Blk.new1 (w1.alloc (.cells #[.int .i64 0] 3)) #[.pointer (some ⟨g, 0, none⟩)] 71).alloc (.cells #[.int .i64 (K : Int), .slice Z nz cz] 41)
      rwa [hs1] at h2
    have R2 : Blk w3 (w1.heap.size + 2) 41 #[.int .i64 (K : Int), .slice Z nz cz] := by
      rw [hw3]
      have h2 := Blk.new2 (w1.alloc (.cells #[.int .i64 0] 3)) (.cells #[.pointer (some ⟨g, 0, none⟩)] 71) #[.int .i64 (K : Int), .slice Z nz cz] 41
      rwa [hs1] at h2
    have hgl := HM1.out.lt
    have hZ1 := HZ.out _ b1
    have hok2 := mapsOk_iff Hok.out
    have hP : N ^ K ≤ 4096 := by obtain ⟨K', N', e1, e2, -, -, h2⟩ := hok2; obtain rfl : K = K' := by omega
                                 obtain rfl : N = N' := by omega
                                 exact h2
    have hrul : rulesOk K l = true := by obtain ⟨K', N', e1, e2, h2, -, -⟩ := hok2; rw [e1]; exact h2
    have hlen := Nat.le_trans (hits_le N K xs l) hP
    have hS := maps1_tells 5 (by omega) K N g Z nz cz Bz xs l (w1.heap.size + 2) (w1.heap.size + 1) (fun b => b < w3.heap.size ∧ b ≠ w1.heap.size) w3 hrul HT.out (fun b hb => hb.1) R2 R1 (HM1.out.below b3) (HZ.out _ bw3) ⟨by omega, by omega⟩ ⟨by omega, by omega⟩ ⟨by omega, by omega⟩ (fun hn => by have := (hZ1.blk_lt hn).2; exact ⟨by omega, by omega⟩)
    clear hw3 hcb HX2 x0 x1 xl hok2
    have he1 : w1.heap.size + 1 + 1 = w1.heap.size + 2 := rfl
    simp only [hs1] 
    gi_wp2_with fail
    refine rangeC_tells rfl (by omega) (gf := 74) (lb := #[.pointer (some ⟨w1.heap.size + 2, 0, none⟩), .pointer (some ⟨w1.heap.size + 1, 0, none⟩)]) rfl trivial (enters_of Tryd.func74 (by kernel_rfl) rfl)
      hS (Below.refl _ _) (fun B i args X he => by rw [he.1]; rfl) (fun B i args X Y he hk => ⟨he.1, by obtain ⟨-, m, h1, h2⟩ := he; exact ⟨m, h1, (hk.block _ (.inr rfl)).trans h2⟩⟩) (by unfold mapD; rintro (⟨h1, -⟩ | h1) <;> omega)
      (CntI w w1.heap.size) (fun _ _ _ => False) (fun i X Y h ho => ⟨ownC_blk h.1 (by omega) ho, ownC_bel h.2 (by omega) h.2.size ho⟩)
      (fun i X p o h hp1 hp2 => ⟨(World.putObj_heap_other (by omega)).trans h.1, put_belC h.2 o (by omega)⟩) (fun c i X p o h _ _ => h)
      (fun o => ⟨(R0.alloc _).alloc _, bw3.trans ((bel2 w3 _ _).mono bw3.size)⟩)
      (fun args => { tmps := #[.agg #[.int .i64 (K : Int), .slice Z nz cz], tabV (N : Int) A n c, .pointer (some ⟨w.heap.size, 0, none⟩), .pointer (some ⟨w.heap.size + 1, 0, none⟩), .int .i64 0, .pointer (some ⟨g, 0, none⟩), .bool true, .pointer (some ⟨w1.heap.size, 0, none⟩), .tuple #[.pointer (some ⟨g, 0, none⟩), .bool true], .agg #[.int .i64 (K : Int), .slice Z nz cz], .agg #[.int .i64 (N : Int), .slice A n c], .tuple #[.pointer (some ⟨g, 0, none⟩), .bool true], .pointer (some ⟨g, 0, none⟩), .bool true, .bool true, .bool false, .pointer (some ⟨g, 0, none⟩), .agg #[.int .i64 (K : Int), .slice Z nz cz], .func (.func 74) #[] #[.pointer (some ⟨w1.heap.size + 2, 0, none⟩), .pointer (some ⟨w1.heap.size + 1, 0, none⟩)], args.getD 0 undef, undef, undef, undef], defers := [] })
      ?assign ?body ?done ?stop
    case assign =>
      rintro lp args W K1 hsa hK
      obtain ⟨x0, rfl⟩ : ∃ x, args = #[x] := by
        obtain ⟨ys, e⟩ : ∃ ys, args.toList = ys := ⟨_, rfl⟩
        have h2 : args.toList.length = 1 := by simpa using hsa
        obtain ⟨x, hx⟩ := List.length_eq_one_iff.1 h2
        exact ⟨x, Array.toList_inj.1 hx⟩
      gi_wp2_with fail
      simpa using hK
    case body =>
      rintro lp i args W ⟨hb, hw⟩ - hlt hWs
      have y0 : W.cell? ⟨w1.heap.size, 0, none⟩ = some (.int .i64 (i : Int)) := hb.cell 0
      have yf : W.frozen? ⟨w1.heap.size, 0, none⟩ = false := hb.frozen 0
      have hi : i ≤ 4096 := by omega
      have hfar : ∀ b v, b ≠ w1.heap.size → (W.setCell ⟨w1.heap.size, 0, none⟩ v).heap[b]? = W.heap[b]? := fun b v hb => Below.heap_setCell _ _ _ b hb
      have HB := Lib.hid hb
      have HW := Lib.hid hw
      have Hfar := Lib.hid hfar
      clear hb hw hfar
      gi_wp2_with fail
      refine ⟨Hfar.out _ _ (by omega), Hfar.out _ _ (by omega), ⟨by rw [World.size_setCell]; exact Nat.le_refl _, fun b hb => Hfar.out _ _ (by unfold mapD at hb; omega)⟩, HB.out.set_ 0 _, HW.out.setCell (by show w.heap.size ≤ w1.heap.size; omega) _⟩
    case done =>
      rintro W ⟨h1, h2⟩ hK
      have y0 : W.cell? ⟨w1.heap.size, 0, none⟩ = some (.int .i64 ((hits N K xs l).length : Int)) := h1.cell 0
      have hrw : w3.heap.size < W.heap.size := (Array.getElem?_eq_some_iff.1 hK).1
      have Hl := Lib.hid (hits_len N K xs l)
      generalize (hits N K xs l).length = V at *
      gi_wp2_with fail
      refine ⟨by simp, .inl ⟨_, _, rfl, run_takeDeferred hK, ?_⟩⟩
      refine ⟨.int .i64 (V : Int), ?_, ret_i64 (by rw [He.out, Hl.out]), put_belC h2 _ (by omega)⟩
      simp [results, Tryd.f22, go_sem]
    case stop =>
      rintro c i W hi h hK
      exact h.elim
  · have He := Lib.hid (countMaps_no hok)
    clear hok
    gi_wp2_with fail
    refine ⟨.int .i64 (-1), ?_, ret_i64 He.out.symm, b1⟩
    simp [results, Tryd.f22, go_sem]
end Go.Proofs.YtlgaihofaiigcaaDoor
