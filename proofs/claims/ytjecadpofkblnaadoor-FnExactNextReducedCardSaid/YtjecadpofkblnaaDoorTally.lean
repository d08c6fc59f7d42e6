/- The tallies: newTally, add, number, forget. -/
import Derived.Test.YtjecadpofkblnaaDoorMapOf
import Derived.Test.YtjecadpofkblnaaDoorTurn
namespace Go.Proofs.YtjecadpofkblnaaDoor
open Go.RowKit Go.Maps

def talV (T : E → Option Int) : E → Option Value := fun e => (T e).map (Value.int .i64)
/-- Block g is a tally whose map, block m, holds T. -/
def TalAt (W : World) (g m c : Nat) (T : E → Option Int) : Prop := Blk W g 144 #[.map (some m)] ∧ MapOf endK W m c (talV T)
theorem zeroInt (w : World) : (zeroValue 3).run Tryd.prog w = .ok (.int .i64 0) w := by kernel_rfl
theorem newTally_any (w : World) :
    Calls Tryd.prog 90 #[] w fun e w' => e = .returned (.pointer (some ⟨w.heap.size + 1, 0, none⟩)) ∧ w' = (w.alloc (.map #[] 0)).alloc (.cells #[.map (some w.heap.size)] 144) := by
  have hmm := @run_makeMap Tryd.prog
  go_enter Tryd.func90, Tryd.ntmps90
  go_wp2_with fail
  go_ret
  exact ⟨rfl, rfl⟩
/-- T with x at e. -/
def putT (T : E → Option Int) (e : E) (x : Int) : E → Option Int := fun f => if f = e then some x else T f
theorem putT_val (T : E → Option Int) (e : E) (x : Int) : putF (talV T) e (.int .i64 x) = talV (putT T e x) := by
  funext f
  unfold putF talV putT
  by_cases h : f = e <;> simp [h]
theorem talV_getD (T : E → Option Int) (e : E) : (talV T e).getD (.int .i64 0) = .int .i64 ((T e).getD 0) := by unfold talV; cases T e <;> rfl
theorem talV_isSome (T : E → Option Int) (e : E) : (talV T e).isSome = (T e).isSome := by unfold talV; cases T e <;> rfl
theorem TalAt.turn {S : List Nat} {W W' : World} {g m c : Nat} {T : E → Option Int} (h : TalAt W g m c T) (ht : Turn S W W') (hg : g ∉ S) (hm : m ∉ S) : TalAt W' g m c T := ⟨ht.blk h.1 hg, h.2.same endK (ht.block m h.2.lt hm)⟩
theorem TalAt.below {W W' : World} {B g m c : Nat} {T : E → Option Int} (h : TalAt W g m c T) (hb : Below B W W') (hg : g < B) (hm : m < B) : TalAt W' g m c T := ⟨h.1.below hb hg, h.2.below endK hb hm⟩
theorem TalAt.ne {W : World} {g m c : Nat} {T : E → Option Int} (h : TalAt W g m c T) : g ≠ m := fun e => by
  obtain ⟨es, clock, hb⟩ := h.2.obj endK
  have h1 := h.1
  unfold Blk at h1
  rw [e, hb] at h1; cases h1
theorem mapTurned_turn {W W' : World} {b : Nat} (h : W.mapTurned W' b) : Turn [b] W W' := turn_grown h.grown (List.mem_singleton.2 rfl)

set_option maxRecDepth 100000 in
set_option maxHeartbeats 800000 in
theorem add_any (g m c : Nat) (T : E → Option Int) (e : E) (x : Int) (w : World) (h : TalAt w g m c T) (he : okE e) (hc : c < 100000) :
    Calls Tryd.prog 91 #[.pointer (some ⟨g, 0, none⟩), endV e, .int .i64 x] w fun y w' =>
      (∃ v, y = .returned v) ∧ Turn [m] w w' ∧ TalAt w' g m (c + 1) (putT T e (wrap64 ((T e).getD 0 + x))) := by
  have hm := h.2.lt
  have hgm := h.ne
  have g1 : (w.alloc (.cells #[.int .i64 e.1, .int .i64 e.2] 97)).cell? ⟨g, 0, none⟩ = some (.map (some m)) := (h.1.alloc _).cell 0
  have M1 : MapOf endK (w.alloc (.cells #[.int .i64 e.1, .int .i64 e.2] 97)).drew m c (talV T) := (h.2.alloc endK _).same endK rfl
  have HB := Lib.hid h.1
  obtain ⟨st, W2, hE, ht2, hL2, hS⟩ := M1.entry endK (mt := 110) (et := 3) Tryd.underlying110 zeroInt (by unfold maxLen; omega) (x := e) he
  have hL := M1.look endK (mt := 110) (et := 3) Tryd.underlying110 (zeroInt _) (x := e) he
  rw [talV_getD] at hE hL hL2
  change Sem.run _ (Instr.mapEntry _ _ (.agg #[.int .i64 e.1, .int .i64 e.2])) _ = _ at hE
  change Sem.run _ (Instr.lookup _ _ (.agg #[.int .i64 e.1, .int .i64 e.2]) _) _ = _ at hL
  change Sem.run _ (Instr.lookup _ _ (.agg #[.int .i64 e.1, .int .i64 e.2]) _) _ = _ at hL2
  obtain ⟨W4, hst, ht4, hM4⟩ := hS (.int .i64 (wrap64 ((T e).getD 0 + x)))
  rw [putT_val] at hM4
  have HM4 := Lib.hid hM4
  have b1 : Below w.heap.size w (w.alloc (.cells #[.int .i64 e.1, .int .i64 e.2] 97)).drew := (bel1 w _).drew
  have HT := Lib.hid ((turn_below (S := [m]) b1).trans ((mapTurned_turn ht2).trans (mapTurned_turn ht4)))
  clear h M1 hS hM4 ht2 ht4 b1
  go_enter Tryd.func91, Tryd.ntmps91
  go_wp2_with fail
  go_region
  go_end0
  exact ⟨⟨_, rfl⟩, HT.out, HT.out.blk HB.out (by simpa using hgm), HM4.out⟩
set_option maxRecDepth 100000 in
set_option maxHeartbeats 800000 in
theorem number_any (g m c : Nat) (T : E → Option Int) (e : E) (w : World) (h : TalAt w g m c T) (he : okE e) :
    Calls Tryd.prog 65 #[.pointer (some ⟨g, 0, none⟩), endV e] w fun y w' => y = .returned (.tuple #[.int .i64 ((T e).getD 0), .bool (T e).isSome]) ∧ Below w.heap.size w w' := by
  have g1 : (w.alloc (.cells #[.int .i64 e.1, .int .i64 e.2] 97)).cell? ⟨g, 0, none⟩ = some (.map (some m)) := (h.1.alloc _).cell 0
  have M1 : MapOf endK (w.alloc (.cells #[.int .i64 e.1, .int .i64 e.2] 97)).drew m c (talV T) := (h.2.alloc endK _).same endK rfl
  have hL := M1.look_ok endK (mt := 110) (et := 3) Tryd.underlying110 (zeroInt _) (x := e) he
  rw [talV_getD, talV_isSome] at hL
  change Sem.run _ (Instr.lookup _ _ (.agg #[.int .i64 e.1, .int .i64 e.2]) _) _ = _ at hL
  clear h M1
  go_enter Tryd.func65, Tryd.ntmps65
  go_wp2_with fail
  go_region
  go_wp2_with fail
  go_ret2
  exact ⟨rfl, (bel1 w _).drew⟩
set_option maxRecDepth 100000 in
set_option maxHeartbeats 800000 in
theorem forget_any (g m c : Nat) (T : E → Option Int) (w : World) (h : TalAt w g m c T) :
    Calls Tryd.prog 93 #[.pointer (some ⟨g, 0, none⟩)] w fun y w' => (∃ v, y = .returned v) ∧ Turn [m] w w' ∧ TalAt w' g m 0 (fun _ => none) := by
  have hgm := h.ne
  have g0 : w.cell? ⟨g, 0, none⟩ = some (.map (some m)) := h.1.cell 0
  have HB := Lib.hid h.1
  obtain ⟨W', hrun, ht, hM⟩ := h.2.clear endK (mt := 110) Tryd.underlying110 0
  have HT := Lib.hid (mapTurned_turn ht)
  have HM := Lib.hid hM
  clear ht hM
  clear h
  go_enter Tryd.func93, Tryd.ntmps93
  go_wp2_with fail
  go_end0
  exact ⟨⟨_, rfl⟩, HT.out, HT.out.blk HB.out (by simpa using hgm), HM.out⟩
end Go.Proofs.YtjecadpofkblnaaDoor
