/- How a round of the search stands: plain lemmas. -/
import Derived.Test.YtjndopogjiacpaaDoorWait
namespace Go.Proofs.YtjndopogjiacpaaDoor
open Go.RowKit Go.Shelf

theorem Wait.form {W : World} {g : Nat} {v : Value} {Q : List ByteArray} (h : Wait W g v Q) : ∃ off c m, Q.length = m ∧ v = .slice (some ⟨g, off, none⟩) m c := by
  obtain ⟨off, c, cur, h1, _⟩ := h
  exact ⟨off, c, _, rfl, h1⟩
theorem Wait.cells {W : World} {g : Nat} {v : Value} {Q : List ByteArray} (h : Wait W g v Q) : ∃ cs t f, W.heap[g]? = some (.cells cs t f) := by
  obtain ⟨off, c, cur, _, _, _, hg, _⟩ := h
  exact ⟨_, _, _, hg⟩
theorem SetM.obj {W : World} {b : Nat} {Q : List ByteArray} (h : SetM W b Q) : ∃ o : Obj, W.heap[b]? = some o ∧ o.isCells = false ∧ o ≠ .deferred (some []) := by
  obtain ⟨D, ⟨es, clock, hb, _⟩, _⟩ := h
  exact ⟨_, hb, rfl, by intro e; cases e⟩

/-- The blocks of a search: k's box, the map, its box, the waiting words' box, the word's box; what was laid then. -/
structure Spots (B0 Mb Rb Wb nb g top : Nat) : Prop where
  a : B0 < Mb
  b : Mb < Rb
  c : Rb < Wb
  d : Wb < nb
  e : nb < top
  f : Mb < g
  h : g < nb
  gr : g ≠ Rb
  gw : g ≠ Wb

/-- A round of the search under way: the steps xs are taken. -/
structure RoundAt (k : Int) (A : Option Addr) (n c : Nat) (l : List R) (y0 : ByteArray) (Q : List ByteArray) (a : Nat) (Ds : List Nat) (w : World) (Mb Rb Wb nb g top : Nat) (xs : List ST) (g' : Nat) (X : World) : Prop where
  m : SetM X Mb (growL l y0 xs Q)
  r : Blk X Rb 75 #[.map (some Mb)]
  wt : ∃ vw, Blk X Wb 76 #[vw] ∧ Wait X g' vw ((growL l y0 xs Q).drop (a + 1))
  gg : g' = g ∨ top ≤ g'
  nw : Blk X nb 9 #[.string y0]
  sy : Blk X w.heap.size 25 #[.int .i64 k, .slice A n c]
  ds : ∀ D ∈ Ds, X.heap[D]? = some (.deferred (some []))
  sz : top ≤ X.heap.size
  bl : Below w.heap.size w X

theorem RoundAt.kept {k : Int} {A : Option Addr} {n c : Nat} {l : List R} {y0 : ByteArray} {Q : List ByteArray} {a : Nat} {Ds : List Nat} {w : World} {Mb Rb Wb nb g top : Nat} {xs : List ST} {g' : Nat} {X Y : World} {row : Option Nat}
    (h : RoundAt k A n c l y0 Q a Ds w Mb Rb Wb nb g top xs g' X) (hp : Spots w.heap.size Mb Rb Wb nb g top) (hD : ∀ D ∈ Ds, D < top) (hg : X.grownBy Y row) (hr : ∀ r, row = some r → top ≤ r ∧ ∃ o : Obj, X.heap[r]? = some o ∧ o.isCells = false) :
    RoundAt k A n c l y0 Q a Ds w Mb Rb Wb nb g top xs g' Y := by
  obtain ⟨h1, h2, h3, h4, h5, h6, h7, h8, h9⟩ := hp
  have hn : ∀ j, j < top → some j ≠ row := fun j hj e => by have := (hr j e.symm).1; omega
  refine ⟨h.m.kept hg (hn _ (by omega)), blk_kept h.r hg (fun r e => (hr r e).2), ?_, h.gg, blk_kept h.nw hg (fun r e => (hr r e).2), blk_kept h.sy hg (fun r e => (hr r e).2), fun D hd => ?_, Nat.le_trans h.sz hg.size, ?_⟩
  · obtain ⟨vw, w1, w2⟩ := h.wt
    exact ⟨vw, blk_kept w1 hg (fun r e => (hr r e).2), wait_kept w2 hg (fun r e => (hr r e).2)⟩
  · have := h.ds D hd
    exact (hg.block D (Array.getElem?_eq_some_iff.1 this).1 (hn D (hD D hd))).trans this
  · exact h.bl.grown hg h.bl.size (fun k e => by have := (hr k e).1; omega)

/-- What a round turns: the map, the waiting words, their box. -/
theorem RoundAt.turn {k : Int} {A : Option Addr} {n c : Nat} {l : List R} {y0 : ByteArray} {Q : List ByteArray} {a : Nat} {Ds : List Nat} {w : World} {Mb Rb Wb nb g top : Nat} {xs xs' : List ST} {g' g2 : Nat} {X Y : World}
    (h : RoundAt k A n c l y0 Q a Ds w Mb Rb Wb nb g top xs g' X) (hp : Spots w.heap.size Mb Rb Wb nb g top) (ht : Turn [Mb, g', Wb] X Y) (hm : SetM Y Mb (growL l y0 xs' Q))
    (hw : ∃ vw, Blk Y Wb 76 #[vw] ∧ Wait Y g2 vw ((growL l y0 xs' Q).drop (a + 1))) (hgg : g2 = g ∨ top ≤ g2) : RoundAt k A n c l y0 Q a Ds w Mb Rb Wb nb g top xs' g2 Y := by
  obtain ⟨h1, h2, h3, h4, h5, h6, h7, h8, h9⟩ := hp
  have hgg1 := h.gg
  obtain ⟨vw, hw1, hw2⟩ := h.wt
  have nm : ∀ j, j ≠ Mb → j ≠ g' → j ≠ Wb → j ∉ [Mb, g', Wb] := fun j a b c => by simp [a, b, c]
  refine ⟨hm, ht.blk h.r (nm _ (by omega) (by omega) (by omega)), hw, hgg, ht.blk h.nw (nm _ (by omega) (by omega) (by omega)), ht.blk h.sy (nm _ (by omega) (by omega) (by omega)), fun D hd => ?_, Nat.le_trans h.sz ht.size, ?_⟩
  · have hD := h.ds D hd
    refine ht.obj hD (nm _ (fun e => ?_) (fun e => ?_) (fun e => ?_))
    · obtain ⟨o, ho, _, hne⟩ := h.m.obj
      subst e
      rw [hD] at ho; injection ho with ho; exact hne ho.symm
    · obtain ⟨cs, t, f, hc⟩ := hw2.cells
      subst e
      rw [hD] at hc; cases hc
    · unfold Blk at hw1
      subst e
      rw [hD] at hw1; cases hw1
  · refine h.bl.trans (ht.below (fun b hb => ?_) h.bl.size)
    simp at hb
    omega
theorem RoundAt.keeps {k : Int} {A : Option Addr} {n c : Nat} {l : List R} {y0 : ByteArray} {Q : List ByteArray} {a : Nat} {Ds : List Nat} {w : World} {Mb Rb Wb nb g top : Nat} {xs : List ST} {g' : Nat} {X Y : World}
    (h : RoundAt k A n c l y0 Q a Ds w Mb Rb Wb nb g top xs g' X) (hp : Spots w.heap.size Mb Rb Wb nb g top) (ht : Turn [Mb, g', Wb] X Y) : KeepsFrom top X Y ∧ Keeps (fun j => j < top ∧ j ∉ [Mb, g, Wb]) X Y := by
  obtain ⟨h1, h2, h3, h4, h5, h6, h7, h8, h9⟩ := hp
  have hgg1 := h.gg
  have hsz := h.sz
  obtain ⟨vw, hw1, hw2⟩ := h.wt
  refine ⟨ht.keepsFrom (fun b hb => ?_), ht.keeps (fun j hj => ?_)⟩
  · simp at hb
    rcases hb with rfl | rfl | rfl
    · exact .inl (by omega)
    · exact .inr hw2.cells
    · exact .inl (by omega)
  · obtain ⟨hj1, hj2⟩ := hj
    simp at hj2 ⊢
    omega
theorem RoundAt.below {k : Int} {A : Option Addr} {n c : Nat} {l : List R} {y0 : ByteArray} {Q : List ByteArray} {a : Nat} {Ds : List Nat} {w : World} {Mb Rb Wb nb g top : Nat} {xs : List ST} {g' : Nat} {X Y : World}
    (h : RoundAt k A n c l y0 Q a Ds w Mb Rb Wb nb g top xs g' X) (hp : Spots w.heap.size Mb Rb Wb nb g top) (hb : Below X.heap.size X Y) : RoundAt k A n c l y0 Q a Ds w Mb Rb Wb nb g top xs g' Y := by
  obtain ⟨vw, w1, w2⟩ := h.wt
  exact h.turn hp (turn_below hb) (h.m.below hb) ⟨vw, w1.below hb w1.lt, w2.turn (S := []) (turn_below hb) (by simp)⟩ h.gg
theorem growL_len {k : Int} {l : List R} {y0 : ByteArray} {Q : List ByteArray} (hv : canRed k l y0 = true) (h8 : y0.size ≤ 8) (hg : GoodQ k l Q) (pre : List (StepAt l y0)) : (growL l y0 (vals pre) Q).length ≤ 87381 :=
  (GoodQ.growL hv h8 (vals pre) Q (fun x hx => by obtain ⟨y, _, rfl⟩ := List.mem_map.1 hx; exact y.2) hg).len
end Go.Proofs.YtjndopogjiacpaaDoor
