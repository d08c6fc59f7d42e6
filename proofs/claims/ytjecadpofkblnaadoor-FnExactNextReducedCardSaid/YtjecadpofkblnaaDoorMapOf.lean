/- Maps of the call's own whose elements are taken as they are: made, looked up, written, cleared; maps keyed by ends and by moves. -/
import Derived.Test.YtjecadpofkblnaaDoorEndOf
import Derived.Maps.RangeWalk
import Derived.Maps.OwnSet
import Derived.Maps.OwnOps
import Derived.DeepKeys4
import Derived.WideKeyEntry
import Derived.Lib.SmallJoins
namespace Go.Proofs.YtjecadpofkblnaaDoor
open Go.RowKit Go.Maps Go.WideShapes
open Go.ChangeMaps (setBlock heap_setBlock_same heap_setBlock_other)

def heldE (v : Value) : Option (DataW Value × List MemPlace) := some (.held v, [])
theorem heldE_inv {v u : Value} {ps : List MemPlace} (h : heldE v = some (.held u, ps)) : v = u := by unfold heldE at h; injection h with h; injection h with h _; injection h

/-- How keys are read. -/
structure Keying (t : TypeId) (K : Type) where
  val : K → Value
  lit : K → Lit
  ok : K → Prop
  law : WideMaps.KeyLaw Tryd.prog t
  key : ∀ x, ok x → keyOf Tryd.prog t (val x) = some (lit x)
  inj : ∀ x y, ok x → ok y → val x = val y → x = y
section
variable {t : TypeId} {K : Type} (Y : Keying t K)
theorem Keying.isKey {x : K} (h : Y.ok x) : WideAt.IsKeyLit (Y.lit x) := (Keyed.of_law Y.law).key (Y.key x h)
theorem Keying.lit_ne {x y : K} (hx : Y.ok x) (hy : Y.ok y) (h : x ≠ y) : Y.lit x ≠ Y.lit y := fun e => by
  have h1 := Y.key x hx
  have h2 := Y.key y hy
  rw [← e] at h2
  exact h (Y.inj x y hx hy ((Keyed.of_law Y.law).inj h1 h2))

/-- Block b is a map that holds just F, written at most c times. -/
def MapOf (W : World) (b c : Nat) (F : K → Option Value) : Prop :=
  ∃ (N : Nat) (D : DataW Value), N ≤ c ∧ W.ownsMap Tryd.prog t heldE b N D ∧ IsMap D ∧
    ∀ x, Y.ok x → (∀ z, D.atKey (Y.lit x) z = (match F x with | some v => DataW.held v | none => z)) ∧ Maps.has D (Y.lit x) = (F x).isSome
theorem MapOf.lt {W : World} {b c : Nat} {F : K → Option Value} (h : MapOf Y W b c F) : b < W.heap.size := by obtain ⟨N, D, _, h1, _⟩ := h; exact h1.lt
theorem MapOf.mono {W : World} {b c c' : Nat} {F : K → Option Value} (h : MapOf Y W b c F) (hc : c ≤ c') : MapOf Y W b c' F := by
  obtain ⟨N, D, h0, h1⟩ := h; exact ⟨N, D, by omega, h1⟩
theorem MapOf.same {W W' : World} {b c : Nat} {F : K → Option Value} (h : MapOf Y W b c F) (hb : W'.heap[b]? = W.heap[b]?) : MapOf Y W' b c F := by
  obtain ⟨N, D, h0, ⟨es, clock, h1, h2⟩, h3⟩ := h
  exact ⟨N, D, h0, ⟨es, clock, hb.trans h1, h2⟩, h3⟩
theorem MapOf.below {W W' : World} {b c B : Nat} {F : K → Option Value} (h : MapOf Y W b c F) (hb : Below B W W') (hB : b < B) : MapOf Y W' b c F := h.same Y (hb.block b hB)
theorem MapOf.alloc {W : World} {b c : Nat} {F : K → Option Value} (h : MapOf Y W b c F) (o : Obj) : MapOf Y (W.alloc o) b c F := h.same Y (Below.heap_alloc W o b h.lt)
theorem MapOf.far {W : World} {b c : Nat} {F : K → Option Value} (h : MapOf Y W b c F) {p : Addr} (hp : b ≠ p.block) (u : Value) : MapOf Y (W.setCell p u) b c F := h.same Y (Below.heap_setCell W p u b hp)
theorem MapOf.congr {W : World} {b c : Nat} {F F' : K → Option Value} (h : MapOf Y W b c F) (hF : ∀ x, Y.ok x → F x = F' x) : MapOf Y W b c F' := by
  obtain ⟨N, D, h0, h1, h2, h3⟩ := h
  exact ⟨N, D, h0, h1, h2, fun x hx => by rw [← hF x hx]; exact h3 x hx⟩
theorem MapOf.made (W : World) : MapOf Y (W.alloc (.map #[] 0)) W.heap.size 0 (fun _ => none) :=
  ⟨0, .map [], Nat.le_refl _, World.ownsMap_made W _ _ _, isMap_empty, fun _ _ => ⟨fun _ => rfl, rfl⟩⟩
theorem MapOf.obj {W : World} {b c : Nat} {F : K → Option Value} (h : MapOf Y W b c F) : ∃ es clock, W.heap[b]? = some (.map es clock) := by
  obtain ⟨N, D, _, ⟨es, clock, hb, _⟩, _⟩ := h; exact ⟨es, clock, hb⟩
theorem MapOf.look_ok {W : World} {b c : Nat} {F : K → Option Value} (h : MapOf Y W b c F) {mt et : TypeId} (ht : Tryd.prog.underlying mt = some (.map t et)) {z : Value} (hz : (zeroValue et).run Tryd.prog W = .ok z W) {x : K} (hx : Y.ok x) :
    (Instr.lookup mt (.map (some b)) (Y.val x) true).run Tryd.prog W = .ok (.tuple #[(F x).getD z, .bool (F x).isSome]) W := by
  obtain ⟨N, D, h0, h1, h2, h3⟩ := h
  obtain ⟨v, ps, hrun, hv⟩ := h1.look_ok (Keyed.of_law Y.law) ht hz (zd := .held z) (zp := []) rfl (Y.key x hx)
  rw [hrun, (h3 x hx).2]
  rw [(h3 x hx).1] at hv
  cases hF : F x with
  | none => rw [hF] at hv; rw [heldE_inv hv]; rfl
  | some u => rw [hF] at hv; rw [heldE_inv hv]; rfl
theorem MapOf.look {W : World} {b c : Nat} {F : K → Option Value} (h : MapOf Y W b c F) {mt et : TypeId} (ht : Tryd.prog.underlying mt = some (.map t et)) {z : Value} (hz : (zeroValue et).run Tryd.prog W = .ok z W) {x : K} (hx : Y.ok x) :
    (Instr.lookup mt (.map (some b)) (Y.val x) false).run Tryd.prog W = .ok ((F x).getD z) W := by
  obtain ⟨N, D, h0, h1, h2, h3⟩ := h
  obtain ⟨v, ps, hrun, hv⟩ := h1.lookup (Keyed.of_law Y.law) ht hz (zd := .held z) (zp := []) rfl (Y.key x hx)
  rw [hrun]
  rw [(h3 x hx).1] at hv
  cases hF : F x with
  | none => rw [hF] at hv; rw [heldE_inv hv]; rfl
  | some u => rw [hF] at hv; rw [heldE_inv hv]; rfl
section
variable [DecidableEq K]
/-- F with one more. -/
def putF (F : K → Option Value) (x : K) (v : Value) : K → Option Value := fun y => if y = x then some v else F y
theorem MapOf.put_views {D : DataW Value} {F : K → Option Value} (h2 : IsMap D) (h3 : ∀ x, Y.ok x → (∀ z, D.atKey (Y.lit x) z = (match F x with | some v => DataW.held v | none => z)) ∧ Maps.has D (Y.lit x) = (F x).isSome)
    {x : K} (hx : Y.ok x) (v : Value) : ∀ y, Y.ok y → (∀ z, (D.put (Y.lit x) (.held v)).atKey (Y.lit y) z = (match putF F x v y with | some v => DataW.held v | none => z)) ∧ Maps.has (D.put (Y.lit x) (.held v)) (Y.lit y) = (putF F x v y).isSome := by
  intro y hy
  unfold putF
  by_cases e : y = x
  · subst e
    rw [if_pos rfl]
    exact ⟨fun z => atKey_put_same h2 (Y.isKey hx) _ z, has_put_same h2 (Y.isKey hx) _⟩
  · rw [if_neg e]
    have hne : Y.lit y ≠ Y.lit x := Y.lit_ne hy hx e
    exact ⟨fun z => (atKey_put_other hne _ z).trans ((h3 y hy).1 z), (has_put_other hne _).trans (h3 y hy).2⟩
theorem MapOf.put {W : World} {b c : Nat} {F : K → Option Value} (h : MapOf Y W b c F) {mt et : TypeId} (ht : Tryd.prog.underlying mt = some (.map t et)) (hc : c < maxLen) {x : K} (hx : Y.ok x) (v : Value) :
    ∃ W', (Instr.mapUpdate mt (.map (some b)) (Y.val x) v).run Tryd.prog W = .ok () W' ∧ MapOf Y W' b (c + 1) (putF F x v) ∧ W.grownBy W' (some b) := by
  obtain ⟨N, D, h0, h1, h2, h3⟩ := h
  obtain ⟨W', hrun, r1, r2⟩ := h1.update (Keyed.of_law Y.law) ht (by omega) (Y.key x hx) (d := .held v) (ps := []) rfl
  exact ⟨W', hrun, ⟨N + 1, _, by omega, r1, h2.put _ _, MapOf.put_views Y h2 h3 hx v⟩, r2⟩
set_option maxRecDepth 100000 in
/-- 'm[k] op= v': the entry, and the store behind it. -/
theorem MapOf.entry {W : World} {b c : Nat} {F : K → Option Value} (h : MapOf Y W b c F) {mt et : TypeId} (ht : Tryd.prog.underlying mt = some (.map t et)) {z : Value} (hz : ∀ W, (zeroValue et).run Tryd.prog W = .ok z W) (hc : c < maxLen) {x : K} (hx : Y.ok x) :
    ∃ (st : Nat) (W2 : World), (Instr.mapEntry mt (.map (some b)) (Y.val x)).run Tryd.prog W = .ok (.tuple #[(F x).getD z, .int .i64 st]) W2 ∧ W.mapTurned W2 b ∧ (Instr.lookup mt (.map (some b)) (Y.val x) false).run Tryd.prog W2 = .ok ((F x).getD z) W2 ∧
      ∀ val : Value, ∃ W4, (Instr.entryStore mt (.map (some b)) (.int .i64 st) val).run Tryd.prog W2 = .ok () W4 ∧ W2.mapTurned W4 b ∧ MapOf Y W4 b (c + 1) (putF F x val) := by
  have hall := h
  obtain ⟨N, D, h0, h1, h2, h3⟩ := h
  have h1' := h1
  obtain ⟨es, clock, hb, FF, hs, rfl⟩ := h1
  have hkey := Y.key x hx
  obtain ⟨v0, st, es1, clock1, hE, hcase, hS⟩ := WideElems.entry_then_store Y.law ht hz hb FF hkey
  have hat := (h3 x hx).1 (.held z)
  have hv0 : v0 = (F x).getD z := by
    have hv : DataW.atKey (.map ((es.toList.map (WideElems.rg Tryd.prog t heldE)).foldr DataW.insert [])) (Y.lit x) (.held z) = .held ((F x).getD z) := by
      rw [hat]; cases F x <;> rfl
    rcases fit_look false (Keyed.of_law Y.law) ht (hz W) hb FF hkey with ⟨-, hno, hat2⟩ | ⟨e0, y, hm, hk, -, hy, hat2, -⟩
    · rw [hat2 (.held z)] at hv
      injection hv with hv
      rcases hcase with ⟨e0, hm, hk, -⟩ | ⟨-, rfl⟩
      · exact absurd hk (hno e0 hm)
      · exact hv
    · have hy2 : y.1 = .held e0.val := by unfold heldE at hy; injection hy with hy; rw [← hy]
      rw [hat2 (.held z), hy2] at hv
      injection hv with hv
      rcases hcase with ⟨e1, hm1, hk1, rfl⟩ | ⟨hno, -⟩
      · rw [← hv]
        have hap : es.toList.Pairwise (fun x y => x.key ≠ y.key) := ((Go.MapKept.stamped_iff es clock).1 FF.stamped).2.2
        rw [List.pairwise_iff_getElem] at hap
        obtain ⟨i, hi, hie⟩ := List.getElem_of_mem hm
        obtain ⟨j, hj, hje⟩ := List.getElem_of_mem hm1
        have hij : i = j := by
          rcases Nat.lt_trichotomy i j with hlt | heq | hlt
          · exact absurd (by rw [hie, hje, hk, hk1]) (hap i j hi hj hlt)
          · exact heq
          · exact absurd (by rw [hie, hje, hk, hk1]) (hap j i hj hi hlt)
        subst hij
        rw [hie] at hje
        rw [hje]
      · exact absurd hk (hno e0 hm)
  subst hv0
  refine ⟨st, setBlock W b (.map es1 clock1), hE, ⟨es, clock, es1, clock1, hb, rfl⟩, ?_, fun val => ?_⟩
  · rcases Y.law.find W hkey es.toList FF.keys with ⟨f1, f2⟩ | ⟨j, e0, f1, f2, f3⟩
    · have hE' : (Instr.mapEntry mt (.map (some b)) (Y.val x)).run Tryd.prog W = .ok (.tuple #[z, goInt clock]) (setBlock W b (.map (es.push ⟨Y.val x, z, clock⟩) (clock + 1))) := by
        simp [Instr.mapEntry, run_underlying ht, MapKept.run_getObj_map hb, Y.law.check W false hkey, f1, hz, MapKept.run_setObj_map _ hb, Result.andThen, setBlock]
      have hU : (Instr.mapUpdate mt (.map (some b)) (Y.val x) z).run Tryd.prog W = .ok () (setBlock W b (.map (es.push ⟨Y.val x, z, clock⟩) (clock + 1))) := by
        simp [Instr.mapUpdate, run_underlying ht, MapKept.run_getObj_map hb, Y.law.check W false hkey, f1, MapKept.run_setObj_map _ hb, Result.andThen, setBlock]
      rw [hE] at hE'
      obtain ⟨e1, e2⟩ := Result.ok.inj hE'
      have e3 := congrArg (fun a : Array Value => a[0]?) (Value.tuple.inj e1)
      simp at e3
      obtain ⟨W', hrun, hM, -⟩ := hall.put Y ht hc hx z
      rw [hU] at hrun
      obtain ⟨-, e4⟩ := Result.ok.inj hrun
      rw [e2, e4]
      have := hM.look Y ht (hz _) hx
      rw [this, e3]
      unfold putF
      rw [if_pos rfl]; rfl
    · have hj : es[j]? = some e0 := by simpa using f2
      have hsame : es.modify j (fun e => { e with key := Y.val x }) = es := by
        apply Array.ext'
        rw [Array.toList_modify, Go.ChangeMaps.modify_eq_set _ _ _ _ f2]
        have : ({ e0 with key := Y.val x } : MapEntry) = e0 := by rw [← f3]
        rw [this]
        exact Go.WideElems.set_self _ _ _ f2
      have hE' : (Instr.mapEntry mt (.map (some b)) (Y.val x)).run Tryd.prog W = .ok (.tuple #[e0.val, goInt e0.born]) (setBlock W b (.map es clock)) := by
        simp [Instr.mapEntry, run_underlying ht, MapKept.run_getObj_map hb, Y.law.check W false hkey, f1, hj, f3, Y.law.stays W hkey, hsame, MapKept.run_setObj_map _ hb, Result.andThen, setBlock]
      rw [hE] at hE'
      obtain ⟨-, e2⟩ := Result.ok.inj hE'
      rw [e2]
      exact (hall.same Y (W' := setBlock W b (.map es clock)) (by rw [heap_setBlock_same hb, hb])).look Y ht (hz _) hx
  have hw3 : (setBlock W b (.map es1 clock1)).heap[b]? = some (.map es1 clock1) := heap_setBlock_same hb _
  obtain ⟨es', clock', hrun, hup⟩ := hS _ val hw3
  obtain ⟨W', hrun', hown', -⟩ := h1'.store (Keyed.of_law Y.law) ht (by omega) hkey (d := .held val) (ps := []) rfl
  rw [hup] at hrun'
  obtain rfl : W' = setBlock W b (.map es' clock') := (Result.ok.inj hrun').2.symm
  refine ⟨_, hrun, ⟨es1, clock1, es', clock', hw3, rfl⟩, N + 1, _, by omega, ?_, h2.put _ _, MapOf.put_views Y h2 h3 hx val⟩
  obtain ⟨es2, clock2, hb2, F2, hs2, hD2⟩ := hown'
  rw [heap_setBlock_same hb] at hb2
  refine ⟨es2, clock2, ?_, F2, hs2, hD2⟩
  rw [heap_setBlock_same hw3, hb2]
end
theorem MapOf.clear {W : World} {b c : Nat} {F : K → Option Value} (h : MapOf Y W b c F) {mt et : TypeId} (ht : Tryd.prog.underlying mt = some (.map t et)) (ty : TypeId) :
    ∃ W', (Builtin.clear_ #[mt] ty #[.map (some b)]).run Tryd.prog W = .ok (.tuple #[]) W' ∧ W.mapTurned W' b ∧ MapOf Y W' b 0 (fun _ => none) := by
  obtain ⟨es, clock, hb⟩ := h.obj
  refine ⟨setBlock W b (.map #[] clock), ?_, ⟨es, clock, #[], clock, hb, rfl⟩, 0, .map [], Nat.le_refl _, ⟨#[], clock, heap_setBlock_same hb _, ⟨by simp, MapKept.stamped_empty clock, by simp⟩, Nat.le_refl _, rfl⟩, isMap_empty, fun _ _ => ⟨fun _ => rfl, rfl⟩⟩
  simp [Builtin.clear_, run_underlying ht, MapKept.run_getObj_map hb, MapKept.run_setObj_map _ hb, Result.andThen, setBlock]
end
theorem endRow : 97 < Tryd.prog.types.size := of_decide_eq_true (by kernel_rfl)
theorem keyLawEnd : WideMaps.KeyLaw Tryd.prog 97 := deep_law_laid laidOut (m := 2) (by omega) endRow (by kernel_rfl) (by kernel_rfl)
theorem moveRow : 137 < Tryd.prog.types.size := of_decide_eq_true (by kernel_rfl)
theorem keyLawMove : WideMaps.KeyLaw Tryd.prog 137 := deep_law_laid laidOut (m := 3) (by omega) moveRow (by kernel_rfl) (by kernel_rfl)
def okE (e : E) : Prop := e.1 < 12 ∧ e.2 < 9
def litE (e : E) : Lit := .string (keyBytes [.int .i64 e.1, .int .i64 e.2])
theorem wfSmall (a : Nat) (h : a < 12) : (Lit.int .i64 (a : Int)).wf = true := by
  simp only [Lit.wf, IntKind.min, IntKind.max, IntKind.signed, IntKind.bits, Bool.and_eq_true, decide_eq_true_eq, if_true]
  omega
theorem key_end (e : E) (h : okE e) : keyOf Tryd.prog 97 (endV e) = some (litE e) := by
  have hk : Tryd.prog.keyType 97 = true := by kernel_rfl
  have hc : Tryd.prog.cellsOf 97 = 2 := by kernel_rfl
  have hs : Tryd.prog.cellsOf 3 = 1 := by kernel_rfl
  have hn : ∃ m, Tryd.prog.types.size + 1 = m + 1 + 1 := ⟨Tryd.prog.types.size - 1, by have := endRow; omega⟩
  have w1 := wfSmall e.1 h.1
  have w2 := wfSmall e.2 (by have := h.2; omega)
  obtain ⟨m, hm⟩ := hn
  unfold keyOf
  rw [Tryd.underlying97, hm]
  simp [Value.formed, Value.cells, hk, hc, hs, Program.keyLits, Tryd.underlying97, Tryd.underlying3, w1, w2, litE]
/-- Keys that are ends. -/
def endK : Keying 97 E := ⟨endV, litE, okE, keyLawEnd, key_end, fun x y _ _ h => by
  injection h with h
  have h1 := congrArg Array.toList h
  injection h1 with a b
  injection b with b _
  injection a with _ a
  injection b with _ b
  exact Prod.ext (by omega) (by omega)⟩
/-- A move: an end and a letter. -/
abbrev M := E × Nat
abbrev moveV (m : M) : Value := .agg #[.int .i64 m.1.1, .int .i64 m.1.2, .int .u8 (97 + (m.2 : Int))]
def okM (m : M) : Prop := okE m.1 ∧ m.2 < 4
def litM (m : M) : Lit := .string (keyBytes [.int .i64 m.1.1, .int .i64 m.1.2, .int .u8 (97 + (m.2 : Int))])
theorem wfLetter (a : Nat) (h : a < 4) : (Lit.int .u8 (97 + (a : Int))).wf = true := by
  match a, h with
  | 0, _ => decide
  | 1, _ => decide
  | 2, _ => decide
  | 3, _ => decide
theorem key_move (e : M) (h : okM e) : keyOf Tryd.prog 137 (moveV e) = some (litM e) := by
  have hk : Tryd.prog.keyType 137 = true := by kernel_rfl
  have hc : Tryd.prog.cellsOf 137 = 3 := by kernel_rfl
  have hce : Tryd.prog.cellsOf 97 = 2 := by kernel_rfl
  have hs : Tryd.prog.cellsOf 3 = 1 := by kernel_rfl
  have hl : Tryd.prog.cellsOf 134 = 1 := by kernel_rfl
  have hn : ∃ m, Tryd.prog.types.size + 1 = m + 1 + 1 + 1 := ⟨Tryd.prog.types.size - 2, by have := moveRow; omega⟩
  have w1 := wfSmall e.1.1 h.1.1
  have w2 := wfSmall e.1.2 (by have := h.1.2; omega)
  have w3 := wfLetter e.2 h.2
  obtain ⟨m, hm⟩ := hn
  unfold keyOf
  rw [Tryd.underlying137, hm]
  simp [Value.formed, Value.cells, hk, hc, hs, hce, hl, Program.keyLits, Tryd.underlying137, Tryd.underlying97, Tryd.underlying3, Tryd.underlying134, w1, w2, w3, litM]
  rw [if_pos (by decide)]
  rfl
def moveK : Keying 137 M := ⟨moveV, litM, okM, keyLawMove, key_move, fun x y _ _ h => by
  injection h with h
  have h1 := congrArg Array.toList h
  injection h1 with a b
  injection b with b c
  injection c with c _
  injection a with _ a
  injection b with _ b
  injection c with _ c
  exact Prod.ext (Prod.ext (by omega) (by omega)) (by omega)⟩
end Go.Proofs.YtjecadpofkblnaaDoor
