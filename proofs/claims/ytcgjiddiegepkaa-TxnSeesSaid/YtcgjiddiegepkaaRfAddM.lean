import Derived.Test.YtcgjiddiegepkaaV11StayN
import Derived.Test.YtcgjiddiegepkaaRfFind
/- A store told by its chains: Count, Last, Chain. -/
namespace Go.Proofs.Ytcgjiddiegepkaa
open Go.RowKit

variable {X W : World} {K : Nat → Prop} {s mb : Nat} {C : ChC} {low : Int} {n : Nat}
theorem lastG (h : SG X K W s mb C low n) (hn : n ≤ 10000) (key : List UInt8) : Calls Try.prog 24 #[.pointer (some ⟨s, 0, none⟩), str key] W fun e W' => e = .returned (.int .i64 (lastTVS (verC key C))) ∧ W = W' := by
  obtain ⟨t, S, h1, h2, h3, h4, h5⟩ := h
  have := lastVS_any h1 (by omega) key
  rw [ver_chs, h2] at this
  exact this
/-- A chain cloned, whatever its slice is. -/
def CloQ (l : List VerVS) (w : World) (e : Ending) (w' : World) : Prop := ∃ v, e = .returned v ∧ RdVS w' v l ∧ Below w.heap.size w w'
end Go.Proofs.Ytcgjiddiegepkaa

/- hblref11's seen, Get, Chain, Last, Low. -/
namespace Go.Proofs.Ytcgjiddiegepkaa
open Go.RowKit

set_option maxRecDepth 100000 in
set_option maxHeartbeats 4000000 in
theorem rseen_any (v : Value) (l : List VerVS) (t : Int) (w : World) (hv : RdVS w v l) (hr : RisT (timesVS l)) (hl : l.length ≤ 1000000) (hg : ∀ x ∈ l, x.2.2 = true → x.2.1 = []) :
    Calls Try.prog 64 #[v, .int .i64 t] w fun e w' => e = seenEVS (seenVS l t) ∧ Below w.heap.size w w' := by
  obtain ⟨av, cv, rfl, _⟩ := hv.form
  have HV := Lib.hid hv
  have HR := Lib.hid hr
  have HG := Lib.hid hg
  clear hv hr hg
  have w0 : IntKind.i64.wrap ((l.length : Int) - 1) = (l.length : Int) - 1 := IntWalk.i64_in _ ⟨by omega, by omega⟩
  go_enter Try.func64, Try.ntmps64
  go_wp2_with fail
  go_loopw [6] (fun vi wr => ∃ i : Int, -1 ≤ i ∧ i < (l.length : Int) ∧ vi = .int .i64 i ∧ Hid (∀ j (h : j < l.length), i < (j : Int) → t < l[j].1) ∧ wr = w) (fun vi _ => (intOf vi + 1).toNat)
  case atStart => exact ⟨(l.length : Int) - 1, by omega, by omega, by go_num, Lib.hid (fun j h h' => absurd h' (by omega)), rfl⟩
  case round =>
    obtain ⟨i, hi1, hi2, rfl, HI, rfl⟩ := hrel
    by_cases h0 : 0 ≤ i
    · obtain ⟨n, rfl⟩ : ∃ n : Nat, i = (n : Int) := ⟨i.toNat, by omega⟩
      have hn : n < l.length := by omega
      have g1 : (0 : Int) ≤ (n : Int) := by omega
      have g2 : (n : Int) < (l.length : Int) := by omega
      have w1 : IntKind.i64.wrap ((n : Int) - 1) = (n : Int) - 1 := IntWalk.i64_in _ ⟨by omega, by omega⟩
      obtain ⟨bA, oA, rfl, c0, c1, c2⟩ := HV.out.get hn
      obtain ⟨⟨ca, cs, cg⟩, hc⟩ : ∃ c, c = l[n] := ⟨_, rfl⟩
      rw [← hc] at c0 c1 c2
      dsimp only at c0 c1 c2
      have HC := Lib.hid hc
      clear hc h0
      by_cases ht : ca ≤ t
      · have HS : Hid (seenVS l t = if cg = true then none else some cs) := Lib.hid (by
          unfold seenVS
          rw [upN_is (n := n + 1) (by simp [timesVS]; omega) (fun p h hp => ?_) (fun p h hp => ?_), lastVS_succ hn, ← HC.out]
          · have hp2 : p < l.length := by simpa [timesVS] using h
            have e : (timesVS l)[p] = l[p].1 := by simp [timesVS]
            rw [e]
            by_cases e2 : p = n
            · subst e2; rw [← HC.out]; exact ht
            · have := risT_at HR.out h (show n < (timesVS l).length by simpa [timesVS] using hn) (show p < n by omega)
              have e3 : (timesVS l)[n]'(by simpa [timesVS] using hn) = l[n].1 := by simp [timesVS]
              rw [e, e3, ← HC.out] at this
              dsimp only at this
              omega
          · have hp2 : p < l.length := by simpa [timesVS] using h
            have e : (timesVS l)[p] = l[p].1 := by simp [timesVS]
            rw [e]
            exact HI.out p hp2 (by omega))
        have HN : Hid (cg = true → cs = []) := Lib.hid (fun h => by
          have := HG.out l[n] (List.getElem_mem hn)
          rw [← HC.out] at this
          exact this h)
        clear HV HR HG HI HC
        go_wp2_with fail
        go_quiet (fail)
        go_wp2_with fail
        go_ret2
        refine ⟨?_, Below.drewsN (Below.refl _ _) _⟩
        rw [HS.out]
        cases cg with
        | true => rw [HN.out rfl]; rfl
        | false => rfl
      · have HN : Hid (∀ j (h : j < l.length), (n : Int) - 1 < (j : Int) → t < l[j].1) := Lib.hid (fun j h hj => by
          by_cases e : j = n
          · subst e; rw [← HC.out]; show t < ca; omega
          · exact HI.out j h (by omega))
        clear HI HC c1 c2
        go_wp2_with fail
        go_roundw
        case rel => exact ⟨(n : Int) - 1, by omega, by omega, by go_num, HN, by first | rfl | trivial⟩
        case measure => simp [intOf]
    · obtain rfl : i = -1 := by omega
      have HS : Hid (seenVS l t = none) := Lib.hid (by
        unfold seenVS
        rw [upN_is (n := 0) (Nat.zero_le _) (fun p h hp => absurd hp (by omega)) (fun p h hp => ?_), lastVS_zero]
        have hp2 : p < l.length := by simpa [timesVS] using h
        have e : (timesVS l)[p] = l[p].1 := by simp [timesVS]
        rw [e]
        exact HI.out p hp2 (by omega))
      clear HV HR HG HI
      go_wp2_with fail
      go_ret2
      refine ⟨?_, Below.refl _ _⟩
      rw [HS.out]
      rfl
variable {W : World} {B b : Nat} {vo : Value} {R : List RRow} {low : Int}
/-- What a place says of a key's chain. -/
theorem RS.ver_yes (h : RS W B b vo R low) {key : List UInt8} {p : Nat} (hp : PlaceB key (chR R) p) (hq : p < R.length) (hk : R[p].1 = key) : verC key (chR R) = R[p].2.2 := by
  unfold verC
  rw [getB_at key h.rs hp, dif_pos (by rw [chR_len]; exact hq), if_pos (by rw [chR_key _ hq]; exact hk)]
  simp [chR]
theorem RS.ver_no (h : RS W B b vo R low) {key : List UInt8} {p : Nat} (hp : PlaceB key (chR R) p) (hk : ¬ ∃ hq : p < R.length, R[p].1 = key) : verC key (chR R) = [] := by
  unfold verC
  rw [getB_at key h.rs hp]
  by_cases hq : p < (chR R).length
  · rw [dif_pos hq, if_neg (fun e => hk ⟨by rw [chR_len] at hq; exact hq, by rw [chR_key hq (by rw [chR_len] at hq; exact hq)] at e; exact e⟩)]; rfl
  · rw [dif_neg hq]; rfl
set_option maxRecDepth 100000 in
set_option maxHeartbeats 4000000 in
theorem rget_any (h : RS W B b vo R low) (hn : R.length ≤ 1000000) (hc : ∀ r ∈ R, RisT (timesVS r.2.2) ∧ r.2.2.length ≤ 1000000 ∧ ∀ x ∈ r.2.2, x.2.2 = true → x.2.1 = []) (key : List UInt8) (t : Int) :
    Calls Try.prog 44 #[.pointer (some ⟨b, 0, none⟩), str key, .int .i64 t] W fun e w' => e = seenEVS (seenVS (verC key (chR R)) t) ∧ Below W.heap.size W w' := by
  have CF := Lib.hid (rfind_any h hn key)
  have HS := Lib.hid h
  have HC := Lib.hid hc
  clear h hc
  go_enter Try.func44, Try.ntmps44
  go_wp2_with fail
  refine CF.out.mono ?_
  rintro e w1 ⟨p, z, rfl, hp, hz, hb⟩
  cases z with
  | false =>
    have HV := Lib.hid (HS.out.ver_no hp (fun h => by have := hz.2 h; cases this))
    have HB := Lib.hid hb
    clear hp hz hb CF
    go_wp2_with fail
    go_ret2
    refine ⟨?_, HB.out⟩
    rw [HV.out]
    rfl
  | true =>
    obtain ⟨hq, hk⟩ := hz.1 rfl
    have HV := Lib.hid (HS.out.ver_yes hp hq hk)
    have HS1 := HS.out.below hb
    obtain ⟨g, cap, hvo, c0, c1⟩ := HS1.get hq
    obtain ⟨s0, _, _, _⟩ := HS1.cells
    obtain ⟨hv1, _, _⟩ := HS1.ch R[p] (List.getElem_mem hq)
    obtain ⟨hr1, hr2, hr3⟩ := HC.out R[p] (List.getElem_mem hq)
    have CS := Lib.hid (rseen_any R[p].2.1 R[p].2.2 t w1 hv1 hr1 hr2 hr3)
    have HB := Lib.hid hb
    obtain ⟨u, hu⟩ : ∃ u, u = R[p].2.1 := ⟨_, rfl⟩
    obtain ⟨sv, hsv⟩ : ∃ sv, sv = seenVS R[p].2.2 t := ⟨_, rfl⟩
    rw [← hu] at c1
    rw [← hu, ← hsv] at CS
    have HSV : Hid (seenVS (verC key (chR R)) t = sv) := Lib.hid (by rw [HV.out, hsv])
    rw [hvo] at s0
    have g1 : (p : Int) < (R.length : Int) := by omega
    have g2 : (0 : Int) ≤ (p : Int) := by omega
    clear hp hz hb CF c0 hu hv1 hr1 hr2 hr3 HS1 hk HV hsv
    go_wp2_with fail
    refine CS.out.mono ?_
    rintro e w2 ⟨rfl, hb2⟩
    have HB2 := Lib.hid (HB.out.trans (hb2.mono HB.out.size))
    clear hb2 CS
    unfold seenEVS
    go_wp2_with fail
    go_ret2
    refine ⟨?_, HB2.out⟩
    rw [HSV.out]
    first | rfl | done
theorem infoRV : (Try.prog.info? 93).map (fun i => (i.zero, i.size, i.bytes)) = some (some (.agg #[.int .i64 0, str [], .bool false]), 3, 32) := by kernel_rfl
theorem one_cellsVS (l : List VerVS) : ∀ u ∈ (l.map cellsVS).flatten, u.oneCell' = true := by
  intro u hu
  obtain ⟨r, hr, hu⟩ := List.mem_flatten.1 hu
  obtain ⟨c, _, rfl⟩ := List.mem_map.1 hr
  simp only [cellsVS, List.mem_cons, List.not_mem_nil, or_false] at hu
  rcases hu with rfl | rfl | rfl <;> rfl
set_option maxRecDepth 100000 in
set_option maxHeartbeats 4000000 in
theorem rchain_any (h : RS W B b vo R low) (hn : R.length ≤ 1000000) (hc : ∀ r ∈ R, r.2.2.length ≤ 1000000) (key : List UInt8) :
    Calls Try.prog 75 #[.pointer (some ⟨b, 0, none⟩), str key] W (CloQ (verC key (chR R)) W) := by
  have CF := Lib.hid (rfind_any h hn key)
  have HS := Lib.hid h
  have HC := Lib.hid hc
  obtain ⟨i0, hi, hz0, hz1, hz2⟩ := info_parts infoRV
  clear h hc
  go_enter Try.func75, Try.ntmps75
  go_wp2_with fail
  refine CF.out.mono ?_
  rintro e w1 ⟨p, z, rfl, hp, hz, hb⟩
  cases z with
  | false =>
    have HV := Lib.hid (HS.out.ver_no hp (fun h => by have := hz.2 h; cases this))
    have HB := Lib.hid hb
    clear hp hz hb CF
    go_wp2_with fail
    go_ret
    refine ⟨_, rfl, ?_, HB.out⟩
    rw [HV.out]
    exact ⟨none, 0, rfl, by simp, by simp, by simp, fun h => absurd rfl h⟩
  | true =>
    obtain ⟨hq, hk⟩ := hz.1 rfl
    have HV := Lib.hid (HS.out.ver_yes hp hq hk)
    have HS1 := HS.out.below hb
    obtain ⟨g, cap, hvo, c0, c1⟩ := HS1.get hq
    obtain ⟨s0, _, _, _⟩ := HS1.cells
    obtain ⟨hv1, hnil, _⟩ := HS1.ch R[p] (List.getElem_mem hq)
    have hr2 := HC.out R[p] (List.getElem_mem hq)
    have HB := Lib.hid hb
    obtain ⟨u, hu⟩ : ∃ u, u = R[p].2.1 := ⟨_, rfl⟩
    obtain ⟨l, hl⟩ : ∃ l, l = R[p].2.2 := ⟨_, rfl⟩
    rw [← hu] at c1 hv1 hnil
    rw [← hl] at hv1 hr2 HV
    rw [hvo] at s0
    have HV1 := Lib.hid (And.intro hv1 hnil)
    have g1 : (p : Int) < (R.length : Int) := by omega
    have g2 : (0 : Int) ≤ (p : Int) := by omega
    have HW2 : Hid (Below w1.heap.size w1 (w1.alloc (.cells #[] 93))) := Lib.hid (below_alloc w1 _)
    have s1 := (HW2.out.cell (p := ⟨b, 0, none⟩) (World.block_lt_of_cell? w1 _ s0)).trans s0
    have c2 := (HW2.out.cell (p := ⟨g, p * 2 + 1, none⟩) (World.block_lt_of_cell? w1 _ c1)).trans c1
    clear hp hz hb CF c0 hu hl hv1 hnil HS1 hk s0 c1
    go_wp2_with (at_builtin; refine hold ?_)
    intro _
    refine wpList_appendG (by rfl) _ _ 116 (by rfl) w1.heap.size 93 i0 _ 3 32 Try.underlying116 hi hz0 hz1 hz2 rfl (by decide) w1.heap.size 0 0 [] (by rfl) (World.ownsRow_lit (e := 93) (size := 3) w1 #[] 0 (Nat.le_refl _) (by decide) rfl) u (l.map cellsVS) (cellsVS_len l) (one_cellsVS l) (by rfl) (RdVS.up HV1.out.1 (below_alloc w1 _)) HV1.out.2 ?_ ?_ ?_ ?_
    · rw [List.length_map]; simp [maxLen]; omega
    · rw [List.length_map]; omega
    · simp
    intro g0 c0 w0 ho0 hg0
    rw [List.length_map, Nat.zero_add, List.nil_append] at ho0
    rw [List.length_map, Nat.zero_add]
    have HF : Hid (RdVS w0 (.slice (some ⟨g0, 0, none⟩) l.length c0) l ∧ Below W.heap.size W w0) := Lib.hid ⟨rd_rowVS ho0, HB.out.trans ((((Below.refl _ w1).alloc (Nat.le_refl _) _).grown hg0 (by simp) (fun k e => by cases e; exact Nat.le_refl _)).mono HB.out.size)⟩
    clear ho0 hg0 s1 c2 HW2 HV1
    go_wp2_with fail
    go_ret
    refine ⟨_, rfl, ?_, HF.out.2⟩
    rw [HV.out]
    exact HF.out.1
set_option maxRecDepth 100000 in
set_option maxHeartbeats 4000000 in
theorem rlast_any (h : RS W B b vo R low) (hn : R.length ≤ 1000000) (hc : ∀ r ∈ R, r.2.2.length ≤ 1000000) (key : List UInt8) :
    Calls Try.prog 55 #[.pointer (some ⟨b, 0, none⟩), str key] W fun e w' => e = .returned (.int .i64 (lastTVS (verC key (chR R)))) ∧ Below W.heap.size W w' := by
  have CC := Lib.hid (rchain_any h hn hc key)
  obtain ⟨l, hl⟩ : ∃ l, l = verC key (chR R) := ⟨_, rfl⟩
  have hlen : l.length ≤ 1000000 := by
    rw [hl]
    unfold verC
    cases e : getB key (chR R) with
    | none => simp
    | some y =>
      have := getB_mem e
      obtain ⟨r, hr, e2⟩ := List.mem_map.1 this
      have := hc r hr
      simp only [Prod.mk.injEq] at e2
      rw [Option.getD_some, ← e2.2]; exact this
  rw [← hl] at CC ⊢
  clear h hn hc hl
  go_enter Try.func55, Try.ntmps55
  go_wp2_with fail
  refine CC.out.mono ?_
  rintro e w1 ⟨v, rfl, hv, hb⟩
  obtain ⟨av, cv, rfl, _⟩ := hv.form
  have HB := Lib.hid hb
  have HV := Lib.hid hv
  clear hb hv CC
  by_cases h0 : l.length = 0
  · have g0 : ((l.length : Int) == 0) = true := by rw [h0]; rfl
    obtain rfl := List.eq_nil_of_length_eq_zero h0
    clear h0
    go_wp2_with fail
    go_ret
    exact ⟨rfl, HB.out⟩
  · have g0 : ((l.length : Int) == 0) = false := by rw [beq_eq_false_iff_ne]; omega
    have hn : l.length - 1 < l.length := by omega
    obtain ⟨bA, oA, rfl, c0, c1, c2⟩ := HV.out.get hn
    have w1' : IntKind.i64.wrap ((l.length : Int) - 1) = (l.length : Int) - 1 := IntWalk.i64_in _ ⟨by omega, by omega⟩
    have g1 : (0 : Int) ≤ (l.length : Int) - 1 := by omega
    have g2 : (l.length : Int) - 1 < (l.length : Int) := by omega
    have g3 : ((l.length : Int) - 1).toNat = l.length - 1 := by omega
    have HL : Hid (lastTVS l = l[l.length - 1].1) := Lib.hid (by
      unfold lastTVS
      rw [List.getLast?_eq_getElem?, List.getElem?_eq_getElem hn]
      rfl)
    obtain ⟨x, hx⟩ : ∃ x, x = l[l.length - 1].1 := ⟨_, rfl⟩
    rw [← hx] at c0 HL
    clear c1 c2 hx h0 HV
    go_wp2_with fail
    go_ret
    exact ⟨by rw [HL.out]; rfl, HB.out⟩
end Go.Proofs.Ytcgjiddiegepkaa

/- hblref11's add: plain facts; what an insert, a store leave. -/
namespace Go.Proofs.Ytcgjiddiegepkaa
open Go.RowKit

theorem insB_twice {Y : Type} (k : List UInt8) (y z : Y) : ∀ C : List (List UInt8 × Y), insB k y (insB k z C) = insB k y C
  | [] => by simp [insB, bl_irr]
  | (k', y') :: t => by
    have ih := insB_twice k y z t
    cases h1 : Op.bytesLess k k' with
    | true => simp [insB, h1, bl_irr]
    | false =>
      cases h2 : Op.bytesLess k' k with
      | true => simp [insB, h1, h2, ih]
      | false => simp [insB, h1, h2, bl_irr]
theorem place_ins {Y : Type} {key : List UInt8} {C : List (List UInt8 × Y)} {p : Nat} {y : Y} (h : PlaceB key C p) : PlaceB key (C.take p ++ (key, y) :: C.drop p) p := by
  have hl : (C.take p ++ (key, y) :: C.drop p).length = C.length + 1 := by
    rw [List.length_append, List.length_take, List.length_cons, List.length_drop]; have := h.le; omega
  have htl : (C.take p).length = p := by rw [List.length_take]; have := h.le; omega
  refine ⟨by have := h.le; omega, fun j hj hjp => ?_, fun j hj hjp => ?_⟩
  · have hjC : j < C.length := by have := h.le; omega
    rw [List.getElem_append_left (by omega), List.getElem_take]
    exact h.lo j hjC hjp
  · rw [List.getElem_append_right (by omega)]
    by_cases e : j = p
    · subst e
      have : j - (C.take j).length = 0 := by omega
      simp only [this, List.getElem_cons_zero]
      exact bl_irr _
    · have hk : j - (C.take p).length = (j - p - 1) + 1 := by omega
      simp only [hk, List.getElem_cons_succ, List.getElem_drop]
      exact h.hi _ _ (by omega)
theorem ris_keys {Y : Type} {C D : List (List UInt8 × Y)} (h : RisB C) (e : D.map Prod.fst = C.map Prod.fst) : RisB D := by
  unfold RisB at h ⊢
  have h1 : (C.map Prod.fst).Pairwise (fun a b => Op.bytesLess a b = true) := List.pairwise_map.2 h
  rw [← e] at h1
  exact List.pairwise_map.1 h1
def newR (key : List UInt8) : RRow := (key, .slice none 0 0, [])
theorem chR_ins (R : List RRow) (p : Nat) (r : RRow) : chR (R.take p ++ r :: R.drop p) = (chR R).take p ++ (r.1, r.2.2) :: (chR R).drop p := by simp [chR, List.map_take, List.map_drop]
theorem flatR_ins (R : List RRow) (p : Nat) (r : List RRow) : ((R.take p ++ r).map cellsR).flatten = ((R.map cellsR).take p).flatten ++ (r.map cellsR).flatten := by simp [List.map_take]
theorem one_cellsR (l : List RRow) (h : ∀ r ∈ l, r.2.1.oneCell' = true) : ∀ u ∈ (l.map cellsR).flatten, u.oneCell' = true := by
  intro u hu
  obtain ⟨r, hr, hu⟩ := List.mem_flatten.1 hu
  obtain ⟨c, hc, rfl⟩ := List.mem_map.1 hr
  simp only [cellsR, List.mem_cons, List.not_mem_nil, or_false] at hu
  rcases hu with rfl | rfl
  · rfl
  · exact h c hc
section
variable {W : World} {B b : Nat} {vo : Value} {R : List RRow} {low : Int}
theorem RS.ones (h : RS W B b vo R low) : ∀ r ∈ R, r.2.1.oneCell' = true := by
  intro r hr
  obtain ⟨⟨a, c, e, _⟩, _⟩ := h.ch r hr
  rw [e]; rfl
/-- A key more. -/
theorem RS.ins {W6 : World} {key : List UInt8} {p g3 c3 : Nat} (h : RS W B b vo R low) (hp : PlaceB key (chR R) p) (hno : ¬ ∃ hq : p < R.length, R[p].1 = key)
    (hr : W6.ownsRow B 118 2 (.slice (some ⟨g3, 0, none⟩) (R.length + 1) c3) (R.length + 1) ((R.take p ++ newR key :: R.drop p).map cellsR).flatten) (hf : Frm (fun i => vo.ownBlock = some i) W W6) :
    RS (W6.setCell ⟨b, 0, none⟩ (.slice (some ⟨g3, 0, none⟩) (R.length + 1) c3)) B b (.slice (some ⟨g3, 0, none⟩) (R.length + 1) c3) (R.take p ++ newR key :: R.drop p) low ∧ Frm (BlkR b vo) W (W6.setCell ⟨b, 0, none⟩ (.slice (some ⟨g3, 0, none⟩) (R.length + 1) c3)) ∧ W6.cell? ⟨b, 0, none⟩ = some vo ∧ W6.frozen? ⟨b, 0, none⟩ = false := by
  have hpl : p ≤ R.length := by have := hp.le; rwa [chR_len] at this
  have hbx : W6.heap[b]? = some (.cells #[vo, .int .i64 low] 69 (0, 0)) := by rw [hf.block b h.blt h.ne]; exact h.box
  have hgb : g3 ≠ b := by
    rintro rfl
    rcases hr.2 with ⟨h', _⟩ | ⟨g', cap', cur, h', _, hg, _⟩
    · simp at h'
    · simp only [Value.slice.injEq, Option.some.injEq, Addr.mk.injEq, and_true] at h'
      obtain ⟨rfl, _⟩ := h'
      rw [hbx] at hg
      simp at hg
  have f2 : Frm (fun i => i = b) W6 (W6.setCell ⟨b, 0, none⟩ (.slice (some ⟨g3, 0, none⟩) (R.length + 1) c3)) := Frm.set _ rfl
  have hfr : Frm (BlkR b vo) W (W6.setCell ⟨b, 0, none⟩ (.slice (some ⟨g3, 0, none⟩) (R.length + 1) c3)) := (hf.mono (fun i _ e => .inr e)).trans f2 (fun i _ e => .inl e)
  have hlen : (R.take p ++ newR key :: R.drop p).length = R.length + 1 := by simp; omega
  refine ⟨⟨?_, ?_, ?_, ?_, h.lt⟩, hfr, by simp [World.cell?, hbx], frozen_of_row W6 b 0 _ _ hbx⟩
  · rw [heap_setCell_same W6 b 0 _ _ _ hbx]; rfl
  · rw [hlen]
    exact owns_frm hr f2 (fun k hk e => by simp only [Value.ownBlock, Option.some.injEq] at hk; omega)
  · intro r hr'
    have hm : r ∈ R ∨ r = newR key := by
      rcases List.mem_append.1 hr' with h1 | h1
      · exact .inl (List.mem_of_mem_take h1)
      · rcases List.mem_cons.1 h1 with rfl | h1
        · exact .inr rfl
        · exact .inl (List.mem_of_mem_drop h1)
    rcases hm with hm | rfl
    · obtain ⟨h1, h2, h3⟩ := h.ch r hm
      refine ⟨RdF.frm h1 hfr (fun j hj => h.apart hm hj), h2, fun j hj => ?_⟩
      obtain ⟨h4, cs, z, h5⟩ := h3 j hj
      exact ⟨h4, cs, z, by rw [hfr.block j (Array.getElem?_eq_some_iff.1 h5).1 (h.apart hm hj)]; exact h5⟩
    · refine ⟨(show RdVS _ (.slice none 0 0) [] from ⟨none, 0, rfl, by simp, by simp, by simp, fun h => absurd rfl h⟩), fun c e => ?_, fun j hj => by cases hj⟩
      simp only [newR, Value.slice.injEq, true_and] at e
      exact e.symm
  · rw [chR_ins]
    have : insB key [] (chR R) = (chR R).take p ++ (key, []) :: (chR R).drop p := by
      rw [insB_at key [] hp, if_neg (fun ⟨hq, e⟩ => hno ⟨by rwa [chR_len] at hq, by rw [chR_key hq (by rwa [chR_len] at hq)] at e; exact e⟩)]
    show RisB ((chR R).take p ++ (key, []) :: (chR R).drop p)
    rw [← this]
    exact insB_ris h.rs
/-- A chain laid in the place of another. -/
theorem RS.setv {W8 : World} {g cap p : Nat} {u : Value} {l : List VerVS} (h : RS W B b (.slice (some ⟨g, 0, none⟩) R.length cap) R low) (hp : p < R.length) (hf : Below W.heap.size W W8) (hu : RdVS W8 u l) (hnil : ∀ c, u = .slice none 0 c → c = 0)
    (hb : ∀ j, sBlk u = some j → B ≤ j ∧ ∃ cs z, W8.heap[j]? = some (.cells cs 93 z)) :
    RS (W8.setCell ⟨g, p * 2 + 1, none⟩ u) B b (.slice (some ⟨g, 0, none⟩) R.length cap) (R.set p (R[p].1, u, l)) low ∧ Frm (BlkR b (.slice (some ⟨g, 0, none⟩) R.length cap)) W (W8.setCell ⟨g, p * 2 + 1, none⟩ u) ∧ W8.cell? ⟨g, p * 2 + 1, none⟩ = some R[p].2.1 ∧ W8.frozen? ⟨g, p * 2 + 1, none⟩ = false := by
  have h8 := h.below hf
  obtain ⟨g', cap', he, _, c1⟩ := h8.get hp
  simp only [Value.slice.injEq, Option.some.injEq, Addr.mk.injEq, and_true] at he
  obtain ⟨rfl, _, rfl⟩ := he
  have hs := World.ownsRow.stored h8.row (p * 2 + 1) u
  have f2 : Frm (fun i => i = g) W8 (W8.setCell ⟨g, p * 2 + 1, none⟩ u) := Frm.set _ rfl
  have hfr : Frm (BlkR b (.slice (some ⟨g, 0, none⟩) R.length cap)) W (W8.setCell ⟨g, p * 2 + 1, none⟩ u) := (Frm.of_below (F := BlkR b (.slice (some ⟨g, 0, none⟩) R.length cap)) hf).trans f2 (fun i _ e => .inr (by rw [e]; rfl))
  have hgb : b ≠ g := fun e => h8.ne (by rw [e]; rfl)
  have ef : (R.map cellsR).flatten.set (p * 2 + 1) u = ((R.set p (R[p].1, u, l)).map cellsR).flatten := by
    rw [flat_set 2 _ (cellsR_len R) p (by simpa using hp) 1 (by decide), List.map_set]
    simp [cellsR]
  refine ⟨⟨?_, ?_, ?_, ?_, h.lt⟩, hfr, c1, row_free h8.row _⟩
  · rw [f2.block b h8.blt hgb]; exact h8.box
  · rw [List.length_set, ← ef]; exact hs.1
  · intro r hr'
    rcases List.mem_or_eq_of_mem_set hr' with hm | rfl
    · obtain ⟨h1, h2, h3⟩ := h.ch r hm
      refine ⟨RdF.frm h1 hfr (fun j hj => h.apart hm hj), h2, fun j hj => ?_⟩
      obtain ⟨h4, cs, z, h5⟩ := h3 j hj
      exact ⟨h4, cs, z, by rw [hfr.block j (Array.getElem?_eq_some_iff.1 h5).1 (h.apart hm hj)]; exact h5⟩
    · have hjg : ∀ j, sBlk u = some j → j ≠ g := by
        rintro j hj rfl
        obtain ⟨_, cs, z, h5⟩ := hb j hj
        rcases h8.row.2 with ⟨h', _⟩ | ⟨g', cap', cur, h', _, hg, _⟩
        · simp at h'
        · simp only [Value.slice.injEq, Option.some.injEq, Addr.mk.injEq, and_true] at h'
          obtain ⟨rfl, _⟩ := h'
          rw [h5] at hg
          simp at hg
      refine ⟨RdF.frm hu f2 (fun j hj e => hjg j hj e), hnil, fun j hj => ?_⟩
      obtain ⟨h4, cs, z, h5⟩ := hb j hj
      exact ⟨h4, cs, z, by rw [f2.block j (Array.getElem?_eq_some_iff.1 h5).1 (hjg j hj)]; exact h5⟩
  · refine ris_keys h.rs ?_
    unfold chR
    rw [List.map_map, List.map_map, List.map_set]
    refine List.ext_getElem (by simp) (fun i h1 h2 => ?_)
    rw [List.getElem_set]
    split
    · next e => subst e; simp
    · rfl
theorem chR_set {R : List RRow} {p : Nat} {key : List UInt8} {u : Value} {l : List VerVS} (hp : PlaceB key (chR R) p) (hq : p < R.length) (hk : R[p].1 = key) : chR (R.set p (R[p].1, u, l)) = insB key l (chR R) := by
  rw [insB_at key l hp, if_pos ⟨by rw [chR_len]; exact hq, by rw [chR_key _ hq]; exact hk⟩]
  unfold chR
  rw [List.map_set, List.set_eq_take_append_cons_drop, if_pos (by simpa using hq), hk]
end
end Go.Proofs.Ytcgjiddiegepkaa
