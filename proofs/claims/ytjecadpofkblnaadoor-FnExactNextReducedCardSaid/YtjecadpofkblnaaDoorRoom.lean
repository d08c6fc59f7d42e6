/- How long a word can follow each end: language.room. -/
import Derived.Test.YtjecadpofkblnaaDoorRoomPlain
import Derived.Test.YtjecadpofkblnaaDoorLongest
namespace Go.Proofs.YtjecadpofkblnaaDoor
open Go.RowKit Go.Maps Go.Shelf
attribute [local go_sem] Oper.semAt_some

/-- The rooms behind t rounds; .. and in the next one behind the first a ends. -/
def roomM (l : List R) (k : Nat) (Q : List E) (t : Nat) (e : E) : Option Value := if e ∈ Q ∧ 0 < t then some (.int .i64 (roomOf l k (t - 1) e)) else none
def roomA (l : List R) (k : Nat) (Q : List E) (t a : Nat) (e : E) : Option Value := if e ∈ Q.take a then roomM l k Q (t + 1) e else roomM l k Q t e
theorem roomA_start (l : List R) (k : Nat) (Q : List E) (t : Nat) : roomA l k Q t 0 = roomM l k Q t := by
  funext e; unfold roomA; rw [if_neg (by simp)]
theorem roomA_done (l : List R) (k : Nat) (Q : List E) (t : Nat) : roomA l k Q t Q.length = roomM l k Q (t + 1) := by
  funext e; unfold roomA
  rw [List.take_length]
  by_cases h : e ∈ Q
  · rw [if_pos h]
  · rw [if_neg h]; unfold roomM; rw [if_neg (fun h1 => h h1.1), if_neg (fun h1 => h h1.1)]
theorem roomM_none (l : List R) (k : Nat) (Q : List E) : roomM l k Q 0 = fun _ => none := by
  funext e; unfold roomM; rw [if_neg (by omega)]

theorem roomA_put {l : List R} {k t a : Nat} {Q : List E} {e : E} (_hd : Q.Nodup) (he : Q[a]? = some e) (hp : 0 < cntE l k t e) : putF (roomA l k Q t a) e (.int .i64 t) = roomA l k Q t (a + 1) := by
  funext f
  unfold putF roomA
  by_cases hf : f = e
  · subst hf
    rw [if_pos rfl, if_pos ((take_mem_succ he).2 (.inr rfl))]
    unfold roomM
    rw [if_pos ⟨List.mem_of_getElem? he, Nat.succ_pos t⟩]
    have : roomOf l k (t + 1 - 1) f = t := by
      have h1 := (roomOf_iff l k f t t (Nat.le_refl t)).2 hp
      have h2 := roomOf_le l k f t
      rw [Nat.add_sub_cancel]; omega
    rw [this]
  · rw [if_neg hf]
    by_cases h1 : f ∈ Q.take a
    · rw [if_pos h1, if_pos ((take_mem_succ he).2 (.inl h1))]
    · rw [if_neg h1, if_neg (fun h2 => ((take_mem_succ he).1 h2).elim h1 hf)]
theorem roomA_skip {l : List R} {k t a : Nat} {Q : List E} {e : E} (hd : Q.Nodup) (he : Q[a]? = some e) (hp : ¬ 0 < cntE l k t e) : roomA l k Q t (a + 1) = roomA l k Q t a := by
  funext f
  unfold roomA
  by_cases hf : f = e
  · subst hf
    rw [if_pos ((take_mem_succ he).2 (.inr rfl)), if_neg (not_mem_take hd he)]
    unfold roomM
    rcases Nat.eq_zero_or_pos t with h0 | h0
    · subst h0; exact absurd (Nat.one_pos : 0 < cntE l k 0 f) hp
    · rw [if_pos ⟨List.mem_of_getElem? he, Nat.succ_pos t⟩, if_pos ⟨List.mem_of_getElem? he, h0⟩]
      obtain ⟨s, rfl⟩ : ∃ s, t = s + 1 := ⟨t - 1, by omega⟩
      rw [Nat.add_sub_cancel, Nat.add_sub_cancel, roomOf, if_neg hp]
  · by_cases h1 : f ∈ Q.take a
    · rw [if_pos h1, if_pos ((take_mem_succ he).2 (.inl h1))]
    · rw [if_neg h1, if_neg (fun h2 => ((take_mem_succ he).1 h2).elim h1 hf)]
/-- How room's world lies between two rounds. -/
def RoomI (l : List R) (k gL : Nat) (Q : List E) (w : World) (t : Nat) (W : World) : Prop :=
  Blk W w.heap.size 58 #[.pointer (some ⟨gL, 0, none⟩)] ∧ Blk W (w.heap.size + 2) 110 #[.map (some (w.heap.size + 1))] ∧ MapOf endK W (w.heap.size + 1) (t * 108) (roomM l k Q t) ∧ Below w.heap.size w W
theorem own2_map {B g c : Nat} {F : E → Option Value} {X Y : World} (h : MapOf endK X g c F) (hg : g < B) (ho : Own2 B X Y) : MapOf endK Y g c F := by
  obtain ⟨S, ht, hS⟩ := ho
  exact h.same endK (ht.block g (h.lt endK) (fun hm => by have := (hS g hm).1; omega))

set_option maxRecDepth 100000 in
set_option maxHeartbeats 2000000 in
theorem room_any (k : Nat) (l : List R) (b0 gL mA c0 most : Nat) (Q : List E) (w : World) (hl : ∀ r ∈ l, r.1.size ≤ 8) (h12 : l.length ≤ 12) (hk : k ≤ 4) (hQ : Ends l k Q) (hlet : Let w) (hL : LangS w b0 gL mA k c0 Q (aftQ l k Q)) (hmost : most ≤ 1000) :
    Calls Tryd.prog 66 #[.pointer (some ⟨gL, 0, none⟩), .int .i64 most] w fun y w' => ∃ g, y = .returned (.map (some g)) ∧ w.heap.size ≤ g ∧ MapOf endK w' g 108108 (roomM l k Q (most + 1)) ∧ Below w.heap.size w w' := by
  have hmm := @run_makeMap Tryd.prog
  refine (callsIn_wide (n := 6)).1 ?_
  refine callsIn_of_wp_marks Tryd.func66 rfl trivial ?_ rfl
  simp only [Tryd.ntmps66, List.size_toArray, List.length_cons, List.length_nil, Nat.reduceAdd, Nat.reduceSub, Array.replicate_succ, Array.replicate_zero, List.push_toArray, List.append_toArray, List.nil_append, List.cons_append]
  gi_wp2_with fail
  refine ⟨trivial, (callsIn_wide.2 (tallies_any gL most _)).mono ?_⟩
  rintro e w1 ⟨rfl, hw1⟩
  have hsz : w1.heap.size = w.heap.size + 5 := by rw [hw1]; simp
  have R0 : Blk w1 w.heap.size 58 #[.pointer (some ⟨gL, 0, none⟩)] := by rw [hw1]; exact ((((Blk.new1 w _ _).alloc _).alloc _).alloc _).alloc _
  have M0 : MapOf endK w1 (w.heap.size + 1) 0 (roomM l k Q 0) := by
    rw [hw1, roomM_none]
    have := ((((MapOf.made endK (w.alloc (.cells #[.pointer (some ⟨gL, 0, none⟩)] 58))).alloc endK (.cells #[.map (some (w.heap.size + 1))] 110)).alloc endK (.cells #[.pointer (some ⟨gL, 0, none⟩)] 58)).alloc endK (.cells #[.int .i64 most] 3))
    rwa [World.size_alloc] at this
  have R2 : Blk w1 (w.heap.size + 2) 110 #[.map (some (w.heap.size + 1))] := by
    rw [hw1]
    have := ((Blk.new2 (w.alloc (.cells #[.pointer (some ⟨gL, 0, none⟩)] 58)) (.map #[] 0) #[.map (some (w.heap.size + 1))] 110).alloc (.cells #[.pointer (some ⟨gL, 0, none⟩)] 58)).alloc (.cells #[.int .i64 most] 3)
    rwa [World.size_alloc] at this
  have R3 : Blk w1 (w.heap.size + 3) 58 #[.pointer (some ⟨gL, 0, none⟩)] := by
    rw [hw1]
    have := (Blk.new3 (w.alloc (.cells #[.pointer (some ⟨gL, 0, none⟩)] 58)) (.map #[] 0) (.cells #[.map (some (w.heap.size + 1))] 110) #[.pointer (some ⟨gL, 0, none⟩)] 58).alloc (.cells #[.int .i64 most] 3)
    rwa [World.size_alloc] at this
  have R4 : Blk w1 (w.heap.size + 4) 3 #[.int .i64 most] := by
    rw [hw1]
    have := Blk.new1 ((((w.alloc (.cells #[.pointer (some ⟨gL, 0, none⟩)] 58)).alloc (.map #[] 0)).alloc (.cells #[.map (some (w.heap.size + 1))] 110)).alloc (.cells #[.pointer (some ⟨gL, 0, none⟩)] 58)) #[.int .i64 most] 3
    simpa using this
  have b1 : Below w.heap.size w w1 := by rw [hw1]; exact ((bel3 w _ _ _).alloc (by simp; omega) _).alloc (by simp; omega) _
  have HQ := Lib.hid hQ
  have hS := tallies1_tells 5 (by omega) k l b0 gL mA c0 (w.heap.size + 3) (w.heap.size + 4) most Q w w1 hl h12 hk hQ hlet hL b1 R3 R4 hmost
  have HLs := Lib.hid hL
  clear hw1 hmm
  gi_wp2_with fail
  refine range_tells rfl (by omega) (gf := 89) (lb := #[.pointer (some ⟨w.heap.size + 3, 0, none⟩), .pointer (some ⟨w.heap.size + 4, 0, none⟩)]) rfl trivial (enters_of Tryd.func89 (by kernel_rfl) rfl)
    hS (Below.refl _ _) (fun B i args X he => by obtain ⟨g, m, g', m', e, -⟩ := he; rw [e]; rfl) (fun B i args X Y he hk => talE_keep he hk) (by unfold talD; omega)
    (RoomI l k gL Q w) (fun _ _ _ => False) (fun i X Y h ho => ⟨own2_blk h.1 ho, own2_blk h.2.1 ho, own2_map h.2.2.1 (by omega) ho, own2_bel h.2.2.2 (by omega) (Nat.le_refl _) ho⟩)
    (fun i X p o h hp1 hp2 => ⟨(World.putObj_heap_other (by omega)).trans h.1, (World.putObj_heap_other (by omega)).trans h.2.1, h.2.2.1.same endK (World.putObj_heap_other (by omega)), put_bel h.2.2.2 o (by omega)⟩) (fun _ _ _ _ _ h => h.elim)
    (fun o => ⟨(R0.alloc _).alloc _, (R2.alloc _).alloc _, by rw [Nat.zero_mul]; exact (M0.alloc endK _).alloc endK _, b1.trans ((bel2 w1 _ _).mono b1.size)⟩)
    (fun args => { tmps := #[.pointer (some ⟨gL, 0, none⟩), .int .i64 most, .pointer (some ⟨w.heap.size, 0, none⟩), undef, .map none, .pointer (some ⟨w.heap.size + 1 + 1, 0, none⟩), args.getD 0 undef, args.getD 1 undef, undef, undef, undef, undef, .map (some (w.heap.size + 1)), .pointer (some ⟨gL, 0, none⟩), .int .i64 most, .func (.func 89) #[] #[.pointer (some ⟨w.heap.size + 1 + 1 + 1, 0, none⟩), .pointer (some ⟨w.heap.size + 1 + 1 + 1 + 1, 0, none⟩)], args.getD 0 undef, args.getD 1 undef, undef, undef, undef, undef, undef, undef, undef, undef, undef, undef, undef, undef, undef, undef, undef, undef, undef, undef, undef, undef, undef], defers := [] })
    ?assign ?body ?done ?stop
  case assign =>
    rintro lp args W K hsa hK
    obtain ⟨x0, x1, rfl⟩ := Go.Joins.array2 hsa
    gi_wp2_with fail
    simpa using hK
  case body =>
    rintro lp t args W ⟨hA, hB, hM, hw⟩ ⟨g, m, g', m', rfl, h2w, hT, hB4⟩ hlt hWs
    have HA := Lib.hid hA
    have HB := Lib.hid hB
    have HT := Lib.hid hT
    have hws := hw.size
    have hW9 : w.heap.size + 11 ≤ W.heap.size := by omega
    have HD : Hid (∀ b, talD w.heap.size (w.heap.size + 3) (w.heap.size + 4) (w.heap.size + 7) b → b < w.heap.size + 11 ∧ b ≠ w.heap.size + 1) := fun b hb => by unfold talD at hb; omega
    have hgm : g ≠ w.heap.size + 1 ∧ m ≠ w.heap.size + 1 ∧ g < W.heap.size := by
      unfold two at h2w
      omega
    have hW := HLs.out.below hw
    obtain ⟨⟨A2, cap, hblk, hrow⟩, -, -, -⟩ := hW
    have q1 : W.cell? ⟨gL, 1, none⟩ = some (.slice A2 Q.length cap) := hblk.cell 1
    have gll := hblk.lt
    have q0 := hA.cell 0
    have hl0 := hA.lt
    have HMp := Lib.hid (hM.obj endK)
    have Hrow : Hid (∀ W', Turn [w.heap.size + 1] W W' → Own b0 W' (.slice A2 Q.length cap) 2 Q.length (endsC Q)) := fun W' ht => by
      refine Own.of_row (e := 97) ⟨hrow.1, ?_⟩
      rcases hrow.2 with h | ⟨g, cp, cur, e, hg, hh, r⟩
      · exact Or.inl h
      · exact Or.inr ⟨g, cp, cur, e, hg, ht.obj hh (by simpa using Blk.ne_map (W := W) (t := 97) (cs := cur) hh HMp.out), r⟩
    have HM0 : Hid (MapOf endK W (w.heap.size + 1) (t * 108 + 0) (roomA l k Q t 0)) := by rw [roomA_start]; exact hM
    have hQl := hQ.len hl h12
    have hQk : t * 108 ≤ 108108 := by omega
    clear hA hB hM hT hblk hrow h2w
    gi_wp2_with fail
    clear q1 q0
    gi_loopw [23] (fun i wx => ∃ a : Nat, i = .int .i64 a ∧ a ≤ Q.length ∧ Hid (MapOf endK wx (w.heap.size + 1) (t * 108 + a) (roomA l k Q t a)) ∧ Hid (Turn [w.heap.size + 1] W wx)) (fun i _ => Q.length - (intOf i).toNat)
    case atStart => exact ⟨0, rfl, Nat.zero_le _, HM0, Turn.refl _ _⟩
    case round =>
      clear HM0
      obtain ⟨a, rfl, hal, HMa, HTu⟩ := hrel
      have hTs := HTu.out.size
      by_cases hlq : a < Q.length
      · have hO := Hrow.out wr HTu.out
        obtain ⟨g1, off, cc, hv⟩ := hO.formR (by omega)
        obtain ⟨rfl, rfl⟩ : A2 = some ⟨g1, off, none⟩ ∧ cap = cc := by injection hv with a _ b; exact ⟨a, b⟩
        clear hv
        obtain ⟨-, hgl, e, he, x0, x1⟩ := hO.endAt hlq
        have hmem : e ∈ Q := List.mem_of_getElem? he
        have hoe : okE e := (HQ.out.good e hmem).lt hl h12
        have He := Lib.hid he
        have Hmem := Lib.hid hmem
        have HTX := Lib.hid (HTu.out.trans (turn_below (bel1 wr (.cells #[.int .i64 e.1, .int .i64 e.2] 97))))
        have HTal := Lib.hid (HT.out.turn HTX.out (by simp; omega) (by simp; omega))
        have HMX := Lib.hid (HMa.out.alloc endK (.cells #[.int .i64 e.1, .int .i64 e.2] 97))
        have HE := Lib.hid (Blk.new1 wr #[.int .i64 e.1, .int .i64 e.2] 97)
        have hbw : w.heap.size + 1 < wr.heap.size := HMa.out.lt endK
        clear hO he hmem HMa HTu
        gi_wp2_with fail
        clear x0 x1 hgl
        obtain ⟨X, hX⟩ : ∃ X, X = wr.alloc (.cells #[.int .i64 e.1, .int .i64 e.2] 97) := ⟨_, rfl⟩
        have hXs : X.heap.size = wr.heap.size + 1 := by rw [hX]; simp
        rw [← hX] at HTX HTal HMX HE ⊢
        clear hX
        refine ⟨trivial, ((callsIn_wide.2 (number_any g m 1000 (talF l k Q t) e X HTal.out hoe)).inRound lp).mono ?_⟩
        rintro y w3 ⟨rfl, hb3⟩
        rw [talF_some Hmem.out]
        have HT3 := Lib.hid (HTX.out.trans (turn_below hb3))
        have HM3 := Lib.hid (HMX.out.below endK hb3 (HMX.out.lt endK))
        have HE3 := Lib.hid (HE.out.below hb3 (by omega))
        have hs3 := hb3.size
        clear hb3 HTX HTal HMX HE
        by_cases hc : 0 < cntE l k t e
        · have hpt := roomA_put HQ.out.nodup He.out hc
          obtain ⟨W6, hput, hM6, hg6⟩ := HM3.out.put endK (mt := 110) (et := 3) Tryd.underlying110 (by unfold maxLen; omega) (x := e) hoe (.int .i64 t)
          rw [hpt] at hM6
          change Sem.run _ (Instr.mapUpdate _ _ (.agg #[.int .i64 e.1, .int .i64 e.2]) (.int .i64 t)) _ = _ at hput
          have HM6 : Hid (MapOf endK W6 (w.heap.size + 1) (t * 108 + (a + 1)) (roomA l k Q t (a + 1))) := hM6
          have HT6 := Lib.hid (HT3.out.trans (turn_grown hg6 (List.mem_singleton.2 rfl)))
          have e0 : w3.cell? ⟨wr.heap.size, 0, none⟩ = some (.int .i64 e.1) := HE3.out.cell 0
          have e1 : w3.cell? ⟨wr.heap.size, 1, none⟩ = some (.int .i64 e.2) := HE3.out.cell 1
          have r0 : w3.cell? ⟨w.heap.size + 1 + 1, 0, none⟩ = some (.map (some (w.heap.size + 1))) := (HT3.out.blk HB.out (by simp)).cell 0
          rw [decide_eq_true hc]
          clear hc hpt hM6 hg6 HM3 HT3 HE3
          gi_wp2_with fail
          go_roundw
          case rel => exact ⟨a + 1, by go_num, by omega, HM6, HT6⟩
          case measure => simp [intOf]; omega
        · have HM6 : Hid (MapOf endK w3 (w.heap.size + 1) (t * 108 + (a + 1)) (roomA l k Q t (a + 1))) := by
            show MapOf _ _ _ _ _
            rw [roomA_skip HQ.out.nodup He.out hc]
            exact HM3.out.mono endK (by omega)
          rw [decide_eq_false hc]
          clear hc HM3 HE3
          gi_wp2_with fail
          go_roundw
          case rel => exact ⟨a + 1, by go_num, by omega, HM6, HT3⟩
          case measure => simp [intOf]; omega
      · have hla : a = Q.length := by omega
        subst hla
        gi_wp2_with fail
        have hk : ∀ b, b < W.heap.size → b ≠ w.heap.size + 1 → wr.heap[b]? = W.heap[b]? := fun b h1 h2 => HTu.out.block b h1 (fun h => h2 (List.mem_singleton.1 h))
        refine ⟨hk _ (by omega) (by omega), hk _ (by omega) (by omega), ⟨hTs, fun b hb => ?_⟩, HTu.out.blk HA.out (by simp), HTu.out.blk HB.out (by simp), ?_, hw.trans (HTu.out.below (fun b hb => by simp at hb; omega) (by omega))⟩
        · have := HD.out b (by rw [hsz] at hb; exact hb)
          exact hk b (by omega) this.2
        · have h1 := HMa.out
          rw [roomA_done] at h1
          exact h1.mono endK (by omega)
  case done =>
    rintro W ⟨h1, h2, h3, h4⟩ hK
    have y0 := h2.cell 0
    have hws := h4.size
    have hrw : w1.heap.size < W.heap.size := (Array.getElem?_eq_some_iff.1 hK).1
    gi_wp2_with fail
    refine ⟨by simp, .inl ⟨_, _, rfl, run_takeDeferred hK, ?_⟩⟩
    refine ⟨.map (some (w.heap.size + 1)), ?_, _, rfl, by omega, (h3.same endK (World.putObj_heap_other (by omega))).mono endK (by omega), put_bel h4 _ (by omega)⟩
    simp [results, Tryd.f66, go_sem]
  case stop => rintro c i W _ h; exact h.elim
end Go.Proofs.YtjecadpofkblnaaDoor
