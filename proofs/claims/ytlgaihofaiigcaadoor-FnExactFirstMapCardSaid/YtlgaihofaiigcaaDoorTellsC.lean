/- As Tells, for an iterator that writes cells of its own between two values. -/
import Derived.Test.YtlgaihofaiigcaaDoorTells
namespace Go.Proofs.YtlgaihofaiigcaaDoor
open Go.RowKit

/-- What such an iterator does by itself: cells from B on turn, and blocks are laid. -/
def OwnC (B : Nat) (W W' : World) : Prop := ∃ S, Turn S W W' ∧ ∀ b ∈ S, B ≤ b ∧ ∃ cs t f, W.heap[b]? = some (.cells cs t f)
theorem ownC_below {B : Nat} {W W' : World} (h : Below W.heap.size W W') : OwnC B W W' := ⟨[], turn_below h, fun b hb => by cases hb⟩

/-- The iterator yields N times; E tells how the world lies when it yields the i-th values; a round leaves the blocks of D as they lay. -/
def SeqTellsC (F : Fence) (m : Nat) (P : Program) (gf : Nat) (lb : Array Value) (E : Nat → Nat → Array Value → World → Prop) (D : Nat → Nat → Prop) (N : Nat) (w0 : World) : Prop :=
  ∀ (lp : Nat) (J Jx : Nat → World → Prop) (W : World), Below w0.heap.size w0 W → (∀ i X Y, J i X → OwnC W.heap.size X Y → J i Y) →
    (∀ i args X, J i X → E W.heap.size i args X → i < N → YieldAt F (m - 1) P lp args X fun e Y => (e = .returned (.bool true) ∧ J (i + 1) Y ∧ KeepD (D W.heap.size) X Y) ∨ (e = .returned (.bool false) ∧ Jx i Y)) →
    J 0 W → CallsIn F m P gf (#[.func (.yield lp) #[] #[]] ++ lb) W fun e Y => (∃ v, e = .returned v) ∧ (J N Y ∨ ∃ i, i < N ∧ Jx i Y)

/-- What a round's body owes. -/
def roundPostC (mark : Nat) (D : Nat → Prop) (I : Nat → World → Prop) (Ix : Code → Nat → World → Prop) (i : Nat) (W : World) : Exit → Act → World → Prop
  | .normal, _, W' => W'.heap[mark]? = W.heap[mark]? ∧ W'.heap[mark + 1]? = W.heap[mark + 1]? ∧ KeepD D W W' ∧ I (i + 1) W'
  | .ret, _, W' => W'.heap[mark]? = W.heap[mark]? ∧ W'.heap[mark + 1]? = W.heap[mark + 1]? ∧ Ix .ret i W'
  | .exit id, _, W' => W'.heap[mark]? = W.heap[mark]? ∧ W'.heap[mark + 1]? = W.heap[mark + 1]? ∧ Ix (.exit id) i W'
  | .goto t, _, W' => W'.heap[mark]? = W.heap[mark]? ∧ W'.heap[mark + 1]? = W.heap[mark + 1]? ∧ Ix (.goto t) i W'
  | _, _, _ => False

theorem rangeC_tells {F : Fence} {n : Nat} {P : Program} {g : Operand} {ps : Array Tmp} {assign body : Code} {Q : Exit → Act → World → Prop} {a : Act} {w : World}
    (hro : F.round = none) (h1 : 1 ≤ n) {gf : Nat} {lb : Array Value} (hg : a.eval g = .func (.func gf) #[] lb) (hFg : F.fn gf) (eg : ∀ args w, (callFunc gf args).run P w = .ok (.enter gf args) w)
    {E : Nat → Nat → Array Value → World → Prop} {D : Nat → Nat → Prop} {N : Nat} {w0 : World} (hseq : SeqTellsC F (n - 1) P gf lb E D N w0) (hb0 : Below w0.heap.size w0 w)
    (hps : ∀ B i args X, E B i args X → args.size = ps.size) (hE : ∀ B i args X Y, E B i args X → KeepD (D B) X Y → E B i args Y) (hD2 : ¬ D (w.heap.size + 2) (w.heap.size + 1))
    (I : Nat → World → Prop) (Ix : Code → Nat → World → Prop) (hI : ∀ i X Y, I i X → OwnC (w.heap.size + 2) X Y → I i Y) (hIp : ∀ i X l o, I i X → w.heap.size ≤ l → l < w.heap.size + 2 → I i (X.putObj l o)) (hXp : ∀ c i X l o, Ix c i X → w.heap.size ≤ l → l < w.heap.size + 2 → Ix c i (X.putObj l o))
    (h0 : ∀ o, I 0 ((w.alloc (.deferred (some []))).alloc o)) (a₁ : Array Value → Act)
    (hassign : ∀ (l : Nat) (args : Array Value) (W : World) (K : Act → World → Prop), args.size = ps.size → K (a₁ args) W →
      assign.wpIn (F.inRound l) (n - 1 - 1) P (Exit.then K (fun _ _ _ => False)) { tmps := (ps.zip args).foldl (fun t (p, v) => t.setIfInBounds p v) a.tmps, defers := [] } W)
    (hbody : ∀ (l i : Nat) (args : Array Value) (W : World), I i W → E (w.heap.size + 2) i args W → i < N → w.heap.size + 2 ≤ W.heap.size → body.wpIn (F.inRound l) (n - 1 - 1) P (roundPostC w.heap.size (D (w.heap.size + 2)) I Ix i W) (a₁ args) W)
    (hdone : ∀ (W : World), I N W → W.heap[w.heap.size]? = some (.deferred (some [])) → Q .normal { a with defers := { target := .collected w.heap.size, args := #[] } :: a.defers } W)
    (hstop : ∀ (c : Code) (i : Nat) (W : World), i < N → Ix c i W → W.heap[w.heap.size]? = some (.deferred (some [])) → c.wpIn F n P Q { a with defers := { target := .collected w.heap.size, args := #[] } :: a.defers } W) :
    (Code.rangeFunc g ps assign body).wpIn F n P Q a w := by
  refine wpIn_rangeFunc fun fn hfn => ?_
  rw [hro]
  obtain ⟨rec, hrec⟩ : ∃ rec : LoopState → Option Code → Loop, rec = fun st pe => { state := st, pending := pe, fn, tmps := a.tmps, params := ps, assign, body, defers := w.heap.size } := ⟨_, rfl⟩
  obtain ⟨W1, hW1⟩ : ∃ W1, (w.alloc (.deferred (some []))).alloc (.loop (rec .ready none)) = W1 := ⟨_, rfl⟩
  have hs1 : W1.heap.size = w.heap.size + 2 := by rw [← hW1]; simp
  have hL1 : W1.heap[w.heap.size + 1]? = some (.loop (rec .ready none)) := by
    rw [← hW1]; have := World.alloc_heap_new (w.alloc (.deferred (some []))) (.loop (rec .ready none)); rwa [World.size_alloc] at this
  have hK1 : W1.heap[w.heap.size]? = some (.deferred (some [])) := by
    rw [← hW1]; exact (Below.heap_alloc _ _ _ (by simp)).trans (World.alloc_heap_new w _)
  have hb1 : Below w0.heap.size w0 W1 := by rw [← hW1]; exact hb0.trans ((bel2 w _ _).mono hb0.size)
  refine ⟨w.heap.size + 1, [{ target := .collected w.heap.size, args := #[] }], W1, { target := .fn (.func gf) lb, args := #[.func (.yield (w.heap.size + 1)) #[] #[]] }, W1, gf,
    #[.func (.yield (w.heap.size + 1)) #[] #[]] ++ lb, W1, ?_, ?_, ?_, ?_, fun _ => h1, ?_⟩
  · rw [← hW1, hrec]; exact run_enterLoop_outer _ _ _ _ _
  · simp only [resolve, hg]
    simp [go_sem]
  · intro f' hf'; simp [Target.leads] at hf'; subst hf'; exact hFg
  · simp [invoke, go_sem, eg]
  have noM : ∀ {X : World} {S : List Nat} {j : Nat} {o : Obj}, X.heap[j]? = some o → (∀ cs t f, o ≠ .cells cs t f) → (∀ b ∈ S, W1.heap.size ≤ b ∧ ∃ cs t f, X.heap[b]? = some (.cells cs t f)) → j ∉ S := fun hj hne hS hm => by
    obtain ⟨-, cs, t, f, hb⟩ := hS _ hm
    rw [hj] at hb
    exact hne cs t f (by injection hb)
  refine (hseq (w.heap.size + 1) (fun i W => I i W ∧ W.heap[w.heap.size + 1]? = some (.loop (rec .ready none)) ∧ W.heap[w.heap.size]? = some (.deferred (some [])))
    (fun i W => ∃ c, Ix c i W ∧ W.heap[w.heap.size + 1]? = some (.loop (rec .done (some c))) ∧ W.heap[w.heap.size]? = some (.deferred (some []))) W1 hb1 ?_ ?_ ⟨by rw [← hW1]; exact h0 _, hL1, hK1⟩).mono ?_
  · rintro i X Y ⟨hi, hl, hk⟩ ⟨S, ht, hS⟩
    refine ⟨hI i X Y hi ⟨S, ht, by rwa [hs1] at hS⟩, ?_, ?_⟩
    · exact ht.obj hl (noM hl (fun _ _ _ e => by cases e) hS)
    · exact ht.obj hk (noM hk (fun _ _ _ e => by cases e) hS)
  · rintro i args X ⟨hi, hl, hk⟩ he hlt
    rw [hs1] at he ⊢
    have hsz : args.size = ps.size := hps _ i args X he
    have hy := run_yield (P := P) (args := args) hl (by rw [hrec]; exact hsz)
    rw [hrec] at hy
    refine ⟨fn, _, assign, body, hy, roundIn_of_wpIn hfn (hassign _ args X _ hsz ?_)⟩
    have hlt1 : w.heap.size + 1 < X.heap.size := (Array.getElem?_eq_some_iff.1 hl).1
    refine ⟨_, run_beginRound hl (by rw [hrec]), ?_⟩
    have hl2 : (X.putObj (w.heap.size + 1) (.loop { rec .ready none with state := .busy })).heap[w.heap.size + 1]? = some (.loop { rec .ready none with state := .busy }) := World.putObj_heap_same hlt1
    have hk2 : (X.putObj (w.heap.size + 1) (.loop { rec .ready none with state := .busy })).heap[w.heap.size]? = some (.deferred (some [])) := (World.putObj_heap_other (by omega)).trans hk
    have hw2 := keepD_put (D := D (w.heap.size + 2)) X (w.heap.size + 1) (.loop { rec .ready none with state := .busy }) hD2
    have hsb := hw2.size
    refine wpIn_mono (hbody _ i args _ (hIp i X _ _ hi (by omega) (by omega)) (hE _ i args X _ he hw2) hlt (Nat.le_trans (by omega) hsb)) ?_
    have fin : ∀ (jump : Option Code) (W3 : World), W3.heap[w.heap.size]? = (X.putObj (w.heap.size + 1) (.loop { rec .ready none with state := .busy })).heap[w.heap.size]? → W3.heap[w.heap.size + 1]? = (X.putObj (w.heap.size + 1) (.loop { rec .ready none with state := .busy })).heap[w.heap.size + 1]? →
        (Instr.endRound (w.heap.size + 1) jump).run P W3 = .ok (.bool jump.isNone) (W3.putObj (w.heap.size + 1) (.loop (rec (if jump.isNone then .ready else .done) jump))) ∧
        (W3.putObj (w.heap.size + 1) (.loop (rec (if jump.isNone then .ready else .done) jump))).heap[w.heap.size + 1]? = some (.loop (rec (if jump.isNone then .ready else .done) jump)) ∧
        (W3.putObj (w.heap.size + 1) (.loop (rec (if jump.isNone then .ready else .done) jump))).heap[w.heap.size]? = some (.deferred (some [])) := fun jump W3 hm3 hr3 => by
      have hl3 := hr3.trans hl2
      have := run_endRound (P := P) jump hl3
      rw [hrec] at this ⊢
      exact ⟨this, World.putObj_heap_same (Array.getElem?_eq_some_iff.1 hl3).1, (World.putObj_heap_other (by omega)).trans (hm3.trans hk2)⟩
    rintro e a3 W3 hp
    cases e with
    | normal =>
      obtain ⟨hm3, hr3, hk3, hi3⟩ := hp
      obtain ⟨hr, hl4, hk4⟩ := fin none W3 hm3 hr3
      exact ⟨_, _, hr, .inl ⟨rfl, ⟨hIp _ _ _ _ hi3 (by omega) (by omega), hl4, hk4⟩, (hw2.trans hk3).trans (keepD_put W3 _ _ hD2)⟩⟩
    | ret =>
      obtain ⟨hm3, hr3, hi3⟩ := hp
      obtain ⟨hr, hl4, hk4⟩ := fin (some .ret) W3 hm3 hr3
      exact ⟨_, _, hr, .inr ⟨rfl, .ret, hXp _ _ _ _ _ hi3 (by omega) (by omega), hl4, hk4⟩⟩
    | exit id =>
      obtain ⟨hm3, hr3, hi3⟩ := hp
      obtain ⟨hr, hl4, hk4⟩ := fin (some (.exit id)) W3 hm3 hr3
      exact ⟨_, _, hr, .inr ⟨rfl, .exit id, hXp _ _ _ _ _ hi3 (by omega) (by omega), hl4, hk4⟩⟩
    | goto t =>
      obtain ⟨hm3, hr3, hi3⟩ := hp
      obtain ⟨hr, hl4, hk4⟩ := fin (some (.goto t)) W3 hm3 hr3
      exact ⟨_, _, hr, .inr ⟨rfl, .goto t, hXp _ _ _ _ _ hi3 (by omega) (by omega), hl4, hk4⟩⟩
    | panic ch => exact hp.elim
    | outgrown => exact hp.elim
  · rintro e W2 ⟨⟨v, rfl⟩, (⟨hi, hl, hk⟩ | ⟨i, hiN, c, hi, hl, hk⟩)⟩
    · exact ⟨none, _, by have := run_endLoop (P := P) hl (by rw [hrec]; simp); rw [hrec] at this; exact this, hdone _ (hIp _ _ _ _ hi (by omega) (by omega)) ((World.putObj_heap_other (by omega)).trans hk)⟩
    · exact ⟨some c, _, by have := run_endLoop (P := P) hl (by rw [hrec]; simp); rw [hrec] at this; exact this, hstop c i _ hiN (hXp _ _ _ _ _ hi (by omega) (by omega)) ((World.putObj_heap_other (by omega)).trans hk)⟩
end Go.Proofs.YtlgaihofaiigcaaDoor
