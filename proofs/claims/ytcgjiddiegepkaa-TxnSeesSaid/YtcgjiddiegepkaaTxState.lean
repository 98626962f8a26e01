import Derived.Test.YtcgjiddiegepkaaTxPut
import Derived.Test.YtcgjiddiegepkaaTxClash
import Derived.Test.YtcgjiddiegepkaaV11StayN
/- txn: Get. -/
namespace Go.Proofs.Ytcgjiddiegepkaa
open Go.RowKit

variable {W : World} {tb s wb : Nat} {at1 : Int} {L : OwnL} {k : Nat}
/-- What Get tells: its own write, else what the store has. -/
def txG (L : OwnL) (key : List UInt8) (r : Option (List UInt8)) : Ending :=
  match getB key L with
  | some y => .returned (.tuple #[str y.2.1, .bool (!y.2.2)])
  | none => seenEVS r
set_option maxRecDepth 100000 in
set_option maxHeartbeats 4000000 in
theorem txGet (h : TxS W tb s wb at1 L k) (key : List UInt8) (r : Option (List UInt8)) (cg : ∀ W', Below W.heap.size W W' → Calls Try.prog 43 #[.pointer (some ⟨s, 0, none⟩), str key, .int .i64 at1] W' fun e W'' => e = seenEVS r ∧ Below W'.heap.size W' W'') :
    Calls Try.prog 18 #[.pointer (some ⟨tb, 0, none⟩), str key] W fun e W' => e = txG L key r ∧ Below W.heap.size W W' := by
  obtain ⟨Z, hZ⟩ : ∃ Z, Z = (getB key L).isSome := ⟨_, rfl⟩
  obtain ⟨v, hv⟩ : ∃ v, v = ((getB key L).map fW).getD (.agg #[str [], str [], .bool false]) := ⟨_, rfl⟩
  obtain ⟨ra, rb, rc, hrk⟩ : ∃ ra rb rc, v = .agg #[str ra, str rb, .bool rc] := by
    rw [hv]
    cases getB key L with
    | none => exact ⟨[], [], false, rfl⟩
    | some y => exact ⟨y.1, y.2.1, y.2.2, rfl⟩
  subst hrk
  have HR : Hid (txG L key r = if Z = true then .returned (.tuple #[str rb, .bool (!rc)]) else seenEVS r) := Lib.hid (by
    unfold txG
    rw [hZ]
    cases e : getB key L with
    | none => rfl
    | some y =>
      rw [e] at hv
      simp only [Option.map_some, Option.getD_some, fW] at hv
      injection hv with hv
      simp only [Array.mk.injEq, List.cons.injEq, and_true] at hv
      obtain ⟨_, h2, h3⟩ := hv
      injection h3 with h3
      simp only [Option.isSome_some, if_true]
      rw [h2, h3])
  have CG : Hid (∀ W', Below W.heap.size W W' → Calls Try.prog 42 #[.pointer (some ⟨wb, 0, none⟩), str key] W' fun e W'' => e = .returned (.tuple #[.agg #[str ra, str rb, .bool rc], .bool Z]) ∧ Below W'.heap.size W' W'') := Lib.hid (fun W' hb => by
    obtain ⟨tw, m1, m2, m3⟩ := (h.below hb).mp
    refine (mgetVW_any wb (str key) tw W' m1 ⟨key, rfl⟩ m2).mono ?_
    rintro e W'' ⟨rfl, hb2⟩
    refine ⟨?_, hb2⟩
    rw [getT_eq ordVW ⟨key, rfl⟩ m2 (by rw [m3]; exact (ris_map _ _).2 h.rs), m3, get_map]
    unfold getEVW
    rw [hv, hZ]
    simp)
  have HC0 : Hid (∀ W', Below W.heap.size W W' → W'.cell? ⟨tb, 0, none⟩ = some (.pointer (some ⟨s, 0, none⟩)) ∧ W'.cell? ⟨tb, 1, none⟩ = some (.int .i64 at1) ∧ W'.cell? ⟨tb, 2, none⟩ = some (.pointer (some ⟨wb, 0, none⟩))) := Lib.hid (fun W' hb => (h.below hb).box.cells)
  have CS := Lib.hid cg
  rw [HR.out]
  clear h hZ hv cg HR
  obtain ⟨p0, p1, p2⟩ := HC0.out _ (Below.refl _ _)
  go_enter Try.func18, Try.ntmps18
  go_wp2_with (go_at_call 42; refine (CG.out _ (Below.refl _ _)).mono ?_; rintro e w5 ⟨rfl, hb5⟩; refine keepF (HC0.out _ hb5) ?_; rintro ⟨p0, p1, p2⟩; have HB5 := Lib.hid hb5; clear hb5; cases Z)
  · clear p0 p1 p2 CG
    generalize hV : w5.alloc _ = V
    have HBV : Hid (Below W.heap.size W V) := Lib.hid (by rw [← hV]; exact HB5.out.trans ((below_alloc w5 _).mono HB5.out.size))
    obtain ⟨p0, p1, _⟩ := HC0.out _ HBV.out
    have CS5 : Hid (Calls Try.prog 43 #[.pointer (some ⟨s, 0, none⟩), str key, .int .i64 at1] V.drew fun e W'' => e = .returned (.tuple #[str (r.getD []), .bool r.isSome]) ∧ Hid (Below W.heap.size W W'')) := Lib.hid ((CS.out _ (Below.drewsN HBV.out 1)).mono (by
      rintro e W'' ⟨rfl, hb⟩
      exact ⟨rfl, Lib.hid (HBV.out.trans (Below.mono ((Below.drewsN (Below.refl _ V) 1).trans hb) HBV.out.size))⟩))
    have HS : Hid (∀ W', Below W.heap.size W W' → W'.cell? ⟨tb, 0, none⟩ = some (.pointer (some ⟨s, 0, none⟩)) ∧ W'.cell? ⟨tb, 1, none⟩ = some (.int .i64 at1)) := Lib.hid (fun W' hb => by
      have := HC0.out _ hb
      exact ⟨this.1, this.2.1⟩)
    clear HC0 CS hV
    go_region_held3 (fun W' => W'.cell? ⟨tb, 0, none⟩ = some (.pointer (some ⟨s, 0, none⟩)) ∧ W'.cell? ⟨tb, 1, none⟩ = some (.int .i64 at1))
      (first
        | (exact ⟨p0, p1⟩)
        | (exact HS.out _ hb6.out)
        | go_keep)
      ((first
        | (go_at_call 43; refine CS5.out.mono ?_; rintro e w6 ⟨rfl, hb6⟩)
        | fail))
    all_goals
      go_wp2_with fail
      go_ret2
      exact ⟨rfl, hb6.out⟩
  · clear p0 p1 p2 CG CS HC0
    have hnw := heap_alloc_new w5 (.cells #[str ra, str rb, .bool rc] 58)
    have HBV : Hid (Below W.heap.size W (w5.alloc (.cells #[str ra, str rb, .bool rc] 58))) := Lib.hid (HB5.out.trans ((below_alloc w5 _).mono HB5.out.size))
    have z1 : (w5.alloc (.cells #[str ra, str rb, .bool rc] 58)).cell? ⟨w5.heap.size, 1, none⟩ = some (str rb) := cell_of_row _ w5.heap.size 1 _ _ (0, 0) hnw
    have z2 : (w5.alloc (.cells #[str ra, str rb, .bool rc] 58)).cell? ⟨w5.heap.size, 2, none⟩ = some (.bool rc) := cell_of_row _ w5.heap.size 2 _ _ (0, 0) hnw
    clear hnw
    generalize hV : w5.alloc (.cells #[str ra, str rb, .bool rc] 58) = V at z1 z2 HBV ⊢
    generalize hn : w5.heap.size = nb at z1 z2 ⊢
    clear hV hn
    go_region_held3 (fun W' => W'.cell? ⟨nb, 1, none⟩ = some (str rb) ∧ W'.cell? ⟨nb, 2, none⟩ = some (.bool rc))
      (first
        | (exact ⟨z1, z2⟩)
        | go_keep)
      (fail)
    all_goals
      go_wp2_with fail
      go_ret2
      exact ⟨rfl, Below.drewsN HBV.out 1⟩
end Go.Proofs.Ytcgjiddiegepkaa

/- A store and a transaction over it. -/
namespace Go.Proofs.Ytcgjiddiegepkaa
open Go.RowKit

theorem StVS.seven {W : World} {B s mb : Nat} {t : Tr} {S : ChsVS} {cnt low : Int} {k : Nat} (h : StVS W B s mb t S cnt low k) : ∀ i, BlkVS s mb S i → ∀ cs T z, W.heap[i]? = some (.cells cs T z) → cs.size ≠ 7 := by
  rintro i (rfl | rfl | ⟨x, hx, hi⟩) cs T z hc
  · rw [h.box] at hc
    simp only [Option.some.injEq, Obj.cells.injEq] at hc
    rw [← hc.1]; simp
  · obtain ⟨T', o, hb, _⟩ := h.mp
    rw [hb] at hc
    simp only [Option.some.injEq, Obj.cells.injEq] at hc
    rw [← hc.1]; simp
  · obtain ⟨cap, hcap⟩ := owns_size (h.ch x hx) hi hc
    omega
variable {X W : World} {K : Nat → Prop} {s mb : Nat} {C : ChC} {low : Int} {n : Nat} {tb wb : Nat} {at1 : Int} {L : OwnL} {k : Nat}
/-- The store stands when blocks turn that are kept for others. -/
theorem SG.turn {W' : World} {F : Nat → Prop} (h : SG X K W s mb C low n) (hf : Frm F W W') (h5 : ∀ i, F i → ∀ cs T z, W.heap[i]? = some (.cells cs T z) → cs.size ≠ 5) (hk : ∀ i, F i → K i) (hX : ∀ i, F i → X.heap.size ≤ i) : SG X K W' s mb C low n := by
  obtain ⟨t, S, h1, h2, h3, h4, h6⟩ := h
  refine ⟨t, S, h1.frm hf h5 (fun i hi hF => (h6 i (hk i hF)).2 hi), h2, ⟨hf.os.trans h3.os, hf.tape.trans h3.tape, hf.output.trans h3.output, Nat.le_trans h3.size hf.size, fun i hi => ?_⟩, h4, fun i hi => ⟨Nat.lt_of_lt_of_le (h6 i hi).1 hf.size, (h6 i hi).2⟩⟩
  rw [hf.block i (Nat.lt_of_lt_of_le hi h3.size) (fun hF => by have := hX i hF; omega)]
  exact h3.block i hi
/-- What is not the store's may be kept for others. -/
theorem SG.more {K' : Nat → Prop} (h : SG X K W s mb C low n) (hk : ∀ i, K' i → i < W.heap.size) (hn : ∀ i, K' i → W.heap.size ≤ i ∨ K i ∨ ∃ cs T z, W.heap[i]? = some (.cells cs T z) ∧ cs.size = 7) : SG X K' W s mb C low n := by
  obtain ⟨t, S, h1, h2, h3, h4, h6⟩ := h
  refine ⟨t, S, h1, h2, h3, h4, fun i hi => ⟨hk i hi, fun hb => ?_⟩⟩
  rcases hn i hi with h | h | ⟨cs, T, z, hc, h7⟩
  · have := (h1.blk i hb).2; omega
  · exact (h6 i h).2 hb
  · exact h1.seven i hb cs T z hc h7
/-- New blocks may be kept for others. -/
theorem SG.fresh {W' : World} {K' : Nat → Prop} (h : SG X K W s mb C low n) (hb : Below W.heap.size W W') (hk : ∀ i, K' i → i < W'.heap.size ∧ (W.heap.size ≤ i ∨ K i)) : SG X K' W' s mb C low n := by
  obtain ⟨t, S, h1, h2, h3, h4, h6⟩ := h
  refine ⟨t, S, h1.below hb, h2, h3.trans (hb.mono h3.size), h4, fun i hi => ⟨(hk i hi).1, fun e => ?_⟩⟩
  rcases (hk i hi).2 with h | h
  · have := (h1.blk i e).2; omega
  · exact (h6 i h).2 e
/-- A store and a transaction. -/
structure TT (X W : World) (s mb : Nat) (C : ChC) (low : Int) (n tb wb : Nat) (at1 : Int) (L : OwnL) (k : Nat) : Prop where
  sg : SG X (fun i => i = tb ∨ i = wb) W s mb C low n
  tx : TxS W tb s wb at1 L k
  lo : X.heap.size ≤ tb ∧ X.heap.size ≤ wb
theorem TT.below {W' : World} (h : TT X W s mb C low n tb wb at1 L k) (hb : Below W.heap.size W W') : TT X W' s mb C low n tb wb at1 L k := ⟨h.sg.below hb, h.tx.below hb, h.lo⟩
theorem ttBegin (h : SG X K W s mb C low n) (at1 : Int) : Calls Try.prog 11 #[.pointer (some ⟨s, 0, none⟩), .int .i64 at1] W fun e W' => ∃ tb wb, e = .returned (.pointer (some ⟨tb, 0, none⟩)) ∧ TT X W' s mb C low n tb wb at1 [] 0 := by
  refine (txBegin W s at1).mono ?_
  rintro e W' ⟨tb, wb, rfl, h1, h2, h3, h4⟩
  have hX := h.bel.size
  refine ⟨tb, wb, rfl, h.fresh h2 (fun i hi => ?_), h1, by omega, by omega⟩
  rcases hi with rfl | rfl
  · exact ⟨h1.lt.1, .inl h3⟩
  · exact ⟨h1.lt.2, .inl h4⟩
theorem TT.two (h : TT X W s mb C low n tb wb at1 L k) {W' : World} {L' : OwnL} {k' : Nat} (h1 : TxS W' tb s wb at1 L' k') (hf : Frm (fun i => i = wb) W W') : TT X W' s mb C low n tb wb at1 L' k' := by
  refine ⟨h.sg.turn hf ?_ (fun i hi => .inr hi) (fun i hi => by cases hi; exact h.lo.2), h1, h.lo⟩
  rintro i rfl cs T z hc
  obtain ⟨u, v, T', e⟩ := h.tx.two
  rw [e] at hc
  simp only [Option.some.injEq, Obj.cells.injEq] at hc
  rw [← hc.1]; simp
theorem ttPut (h : TT X W s mb C low n tb wb at1 L k) (hk : k ≤ 100000) (x y : List UInt8) (hx : x.length ≤ 9223372036854775807) (hy : y.length ≤ 9223372036854775807) :
    Calls Try.prog 14 #[.pointer (some ⟨tb, 0, none⟩), str x, str y] W fun e W' => e = .returned (.int .i64 (wrC L (x, y, false))) ∧ TT X W' s mb C low n tb wb at1 (wrL L (x, y, false)) (k + 1) :=
  (txPut h.tx hk x y hx hy).mono (fun _ _ ⟨h1, h2, h3⟩ => ⟨h1, h.two h2 h3⟩)
theorem ttDelete (h : TT X W s mb C low n tb wb at1 L k) (hk : k ≤ 100000) (x : List UInt8) (hx : x.length ≤ 9223372036854775807) :
    Calls Try.prog 16 #[.pointer (some ⟨tb, 0, none⟩), str x] W fun e W' => e = .returned (.int .i64 (wrC L (x, [], true))) ∧ TT X W' s mb C low n tb wb at1 (wrL L (x, [], true)) (k + 1) :=
  (txDelete h.tx hk x hx).mono (fun _ _ ⟨h1, h2, h3⟩ => ⟨h1, h.two h2 h3⟩)
theorem ttGet (h : TT X W s mb C low n tb wb at1 L k) (hn : n ≤ 10000) (key : List UInt8) :
    Calls Try.prog 18 #[.pointer (some ⟨tb, 0, none⟩), str key] W fun e W' => e = txG L key (seenVS (verC key C) at1) ∧ Below W.heap.size W W' :=
  txGet h.tx key _ (fun _ hb => getG (h.sg.below hb) hn key at1)
/-- What a transaction sees. -/
def sawT (at1 : Int) (C : ChC) (L : OwnL) : List PairT := seenW (mrgL ((scanC at1 C).map stW) (L.map (pairB fW)))
theorem mrgL_len : ∀ (a b : List (Value × Value)), (mrgL a b).length ≤ a.length + b.length
  | a, b => mrg_len a b
theorem saw_len (at1 : Int) (C : ChC) (L : OwnL) : (sawT at1 C L).length ≤ C.length + L.length := by
  have h1 : (sawT at1 C L).length ≤ (mrgL ((scanC at1 C).map stW) (L.map (pairB fW))).length := List.length_filterMap_le _ _
  have h2 := mrgL_len ((scanC at1 C).map stW) (L.map (pairB fW))
  have h3 := scan_len at1 C
  simp only [List.length_map] at h2
  omega
theorem ttPairs (h : TT X W s mb C low n tb wb at1 L k) (hn : n ≤ 10000) (hk : k ≤ 100000) {b1 b2 b3 : Nat} (hL : TxL W b1 b2 b3 tb [] []) (m : Int) (hm : 1 ≤ m) :
    Calls Try.prog 21 #[.func (.func 49) #[] #[.pointer (some ⟨b1, 0, none⟩), .pointer (some ⟨b2, 0, none⟩), .pointer (some ⟨b3, 0, none⟩)], .int .i64 m] W (PrsP W ((sawT at1 C L).take m.toNat)) := by
  obtain ⟨t, S, h1, h2, h3, h4, h6⟩ := h.sg
  obtain ⟨tw, m1, m2, m3⟩ := h.tx.mp
  have e : seenW (txL [] at1 S tw) = sawT at1 C L := by
    unfold sawT txL
    rw [scanL_nil, h2, fromW_nil _ (fun p hp => (ws_keys m2 p hp).1), m3]
  have hkk := h.tx.hk
  have hC : C.length ≤ n := by rw [← h2]; unfold chsVS; rw [List.length_map]; exact h1.hk.2.1
  have := txPairs_any h1 (by omega) m1 m2 (by rw [m3, List.length_map]; omega) h.tx.box hL m hm (by rw [e]; have := saw_len at1 C L; omega)
  rw [e] at this
  exact this
theorem ttClash (h : TT X W s mb C low n tb wb at1 L k) (hn : n ≤ 10000) :
    Calls Try.prog 31 #[.pointer (some ⟨tb, 0, none⟩)] W (ClR W (fun key => lastTVS (verC key C)) at1 L) := by
  refine txClash h.tx _ (fun W' key hb => ?_)
  obtain ⟨t, S, h1, h2, h3, h4, h6⟩ := h.sg
  have := lastVS_any (h1.below hb) (by omega) key
  rw [ver_chs, h2] at this
  exact this
end Go.Proofs.Ytcgjiddiegepkaa
