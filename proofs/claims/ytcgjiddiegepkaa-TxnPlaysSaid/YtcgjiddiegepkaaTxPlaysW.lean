import Derived.Test.YtcgjiddiegepkaaRxSt
import Derived.Deep.RegionHeld3
import Derived.Deep.QuietTactic
import Derived.BigQuiet
import Derived.Test.YtcgjiddiegepkaaRxWr
import Derived.Test.YtcgjiddiegepkaaRxPref
import Derived.Test.YtcgjiddiegepkaaTxStores
import Derived.Laws.Cover1
import Derived.Deep.CutRange
import Derived.Deep.CutBlock
/- hblref11.Txn's Begin, Writes, Get, Clash. -/
namespace Go.Proofs.Ytcgjiddiegepkaa
open Go.RowKit
variable {W : World} {B rb b : Nat} {at1 : Int} {vo : Value} {L : OwnL}
theorem rx_nil {W : World} {b size n : Nat} {e : TypeId} {v : Value} {xs : List Value} (h : W.ownsRow b e size v n xs) : ∀ c, v = .slice none 0 c → c = 0 := by
  rintro c rfl
  rcases h.2 with ⟨h', _⟩ | ⟨g, cap, cur, h', _⟩
  · simpa using h'
  · simp at h'
theorem rxBegin (W : World) (B b : Nat) (at1 : Int) (hB : B ≤ W.heap.size) : Calls Try.prog 12 #[.pointer (some ⟨b, 0, none⟩), .int .i64 at1] W fun e W' => ∃ rb, e = .returned (.pointer (some ⟨rb, 0, none⟩)) ∧ RT W' B rb b at1 (.slice none 0 0) [] ∧ Below W.heap.size W W' ∧ W.heap.size ≤ rb := by
  have HB := Lib.hid hB
  clear hB
  go_enter Try.func12, Try.ntmps12
  go_wp2_with fail
  go_ret
  exact ⟨W.heap.size, rfl, ⟨heap_alloc_new _ _, World.ownsRow_nil _ _ _ _, List.Pairwise.nil, fun x hx => (by cases hx), by simp, HB.out⟩, below_alloc _ _, Nat.le_refl _⟩
set_option maxHeartbeats 4000000 in
theorem rxWrites_any (h : RT W B rb b at1 vo L) : Calls Try.prog 35 #[.pointer (some ⟨rb, 0, none⟩)] W fun e W' => ∃ v, e = .returned v ∧ RdW W' v (L.map Prod.snd) ∧ Below W.heap.size W W' := by
  obtain ⟨i0, hi, hz0, hz1, hz2⟩ := info_parts infoWr
  obtain ⟨_, _, q2, _⟩ := (h.below (below_alloc W (.cells #[] 58))).cells
  obtain ⟨a, c, rfl⟩ := h.form
  have HRD := Lib.hid (And.intro h.rd (rx_nil h.row))
  have hln := h.ln
  clear h
  go_enter Try.func35, Try.ntmps35
  go_wp2_with (at_builtin; refine hold ?_)
  intro _
  refine wpList_appendG (by rfl) _ _ 54 (by rfl) W.heap.size 58 i0 _ 3 40 Try.underlying54 hi hz0 hz1 hz2 rfl (by decide) W.heap.size 0 0 [] (by rfl) (World.ownsRow_lit (e := 58) (size := 3) W #[] 0 (Nat.le_refl _) (by decide) rfl) _ ((L.map Prod.snd).map cellsWr) (cellsWr_len _) (one_cellsWr _) (by rfl) (RdF.below HRD.out.1 (below_alloc W _) (Nat.le_refl _)) HRD.out.2 ?_ ?_ ?_ ?_
  · simp [maxLen]; omega
  · simp; omega
  · simp
  intro g7 c7 w7 r7 gr7
  have H7 : Hid (RdW w7 (.slice (some ⟨g7, 0, none⟩) (0 + ((L.map Prod.snd).map cellsWr).length) c7) (L.map Prod.snd) ∧ Below W.heap.size W w7) := Lib.hid ⟨by
    refine RdF.of_row (cellsWr_len _) (base := W.heap.size) (e := 58) ?_
    simpa using r7, ((Below.refl _ W).alloc (Nat.le_refl _) _).grown gr7 (by simp) (fun k e => by cases e; exact Nat.le_refl _)⟩
  clear r7 gr7
  go_wp2_with fail
  go_ret
  exact ⟨_, rfl, by simpa using H7.out.1, H7.out.2⟩
set_option maxRecDepth 100000 in
set_option maxHeartbeats 4000000 in
theorem rxGet_any (h : RT W B rb b at1 vo L) (key : List UInt8) (r : Option (List UInt8)) (cg : ∀ W', Below W.heap.size W W' → Calls Try.prog 44 #[.pointer (some ⟨b, 0, none⟩), str key, .int .i64 at1] W' fun e W'' => e = seenEVS r ∧ Below W'.heap.size W' W'') :
    Calls Try.prog 19 #[.pointer (some ⟨rb, 0, none⟩), str key] W fun e W' => e = txG L key r ∧ Below W.heap.size W W' := by
  have HR := Lib.hid h
  have HG := Lib.hid cg
  obtain ⟨a, c, rfl⟩ := h.form
  have hln := h.ln
  obtain ⟨q0, q1, q2, _⟩ := h.cells
  clear h cg
  go_enter Try.func19, Try.ntmps19
  go_wp2_with fail
  go_loopw [6] (fun v wr => ∃ p : Nat, p ≤ L.length ∧ v = .int .i64 (p : Int) ∧ Hid (∀ j (h : j < L.length), j < p → L[j].1 ≠ key) ∧ W = wr) (fun v _ => L.length - (intOf v).toNat)
  case atStart => exact ⟨0, Nat.zero_le _, rfl, Lib.hid (fun _ _ h => absurd h (by omega)), rfl⟩
  case round =>
    obtain ⟨p, hp, rfl, HLO, rfl⟩ := hrel
    by_cases hlt : p < L.length
    · have g5 : decide ((p : Int) < (L.length : Int)) = true := decide_eq_true (by omega)
      have g5' : (p : Int) < (L.length : Int) := by omega
      have g6 : (0 : Int) ≤ (p : Int) := by omega
      obtain ⟨g, cap, he, _, c0, c1, c2, _⟩ := HR.out.get hlt
      simp only [Value.slice.injEq, true_and] at he
      obtain ⟨rfl, rfl⟩ := he
      obtain ⟨x, hx⟩ : ∃ x, x = L[p] := ⟨_, rfl⟩
      have HX : Hid (x ∈ L) := Lib.hid (by rw [hx]; exact List.getElem_mem hlt)
      have HXE := Lib.hid hx
      rw [← hx] at c0 c1 c2
      clear hx
      obtain ⟨yk, y0, yv, yg⟩ := x
      dsimp only at c0 c1 c2
      obtain ⟨z, hz⟩ : ∃ z, z = (yk == key) := ⟨_, rfl⟩
      have hzz := hz.symm
      clear hz
      cases z
      · have HN : Hid (∀ j (h : j < L.length), j < p + 1 → L[j].1 ≠ key) := Lib.hid (fun j h hj => by
          by_cases e : j = p
          · subst e
            rw [← HXE.out]
            exact beq_eq_false_iff_ne.1 hzz
          · exact HLO.out j h (by omega))
        clear HLO HX HXE
        go_wp2_with fail
        go_roundw
        case rel => exact ⟨p + 1, by omega, by go_num, HN, by first | rfl | trivial⟩
        case measure => simp [intOf]; omega
      · have HE : Hid (txG L key r = .returned (.tuple #[str yv, .bool (!yg)])) := Lib.hid (by
          have e : yk = key := beq_iff_eq.1 hzz
          subst e
          unfold txG
          rw [getB_in HR.out.rs HX.out])
        clear HLO HX HXE
        go_wp2_with fail
        go_quiet (fail)
        go_wp2_with fail
        go_ret2
        exact ⟨by rw [HE.out]; rfl, Below.drewsN (Below.refl _ _) _⟩
    · obtain rfl : p = L.length := by omega
      have g5 : decide ((L.length : Int) < (L.length : Int)) = false := decide_eq_false (by omega)
      have g5' : ¬ (L.length : Int) < (L.length : Int) := by omega
      have HE : Hid (txG L key r = seenEVS r) := Lib.hid (by
        unfold txG
        have e : getB key L = none := by
          cases e : getB key L with
          | none => rfl
          | some y =>
            obtain ⟨j, hj, hje⟩ := List.mem_iff_getElem.1 (getB_mem e)
            exact absurd (by rw [hje]) (HLO.out j hj hj)
        rw [e])
      clear HLO
      have hb1 : Below W.heap.size W W.drew := Below.drewsN (Below.refl _ _) 1
      have HB1 := Lib.hid hb1
      have CG := Lib.hid (HG.out W.drew hb1)
      obtain ⟨rs, hrs⟩ : ∃ rs, rs = seenEVS r := ⟨_, rfl⟩
      rw [← hrs] at CG HE
      have HQ : Hid (∀ W', Below W.drew.heap.size W.drew W' → W'.cell? ⟨rb, 0, none⟩ = some (.pointer (some ⟨b, 0, none⟩)) ∧ W'.cell? ⟨rb, 1, none⟩ = some (.int .i64 at1)) := Lib.hid (fun W' hb => by
        have := ((HR.out.below hb1).below hb).cells
        exact ⟨this.1, this.2.1⟩)
      have hk : ∃ x y, rs = .returned (.tuple #[x, y]) := by
        rw [hrs]; unfold seenEVS
        cases r <;> exact ⟨_, _, rfl⟩
      obtain ⟨rx, ry, rfl⟩ := hk
      clear hrs hb1 HG HR
      go_wp2_with fail
      go_region_held3 (fun W' => W'.cell? ⟨rb, 0, none⟩ = some (.pointer (some ⟨b, 0, none⟩)) ∧ W'.cell? ⟨rb, 1, none⟩ = some (.int .i64 at1))
        (first
          | (exact ⟨q0, q1⟩)
          | (exact HQ.out _ hb9)
          | go_keep)
        ((first
          | (go_at_call 44; refine CG.out.mono ?_; rintro e w9 ⟨rfl, hb9⟩)
          | fail))
      all_goals
        have HX := Lib.hid (HB1.out.trans (hb9.mono HB1.out.size))
        clear hb9
        go_wp2_with fail
        go_ret2
        exact ⟨by rw [HE.out]; rfl, HX.out⟩
theorem any_prefix (f : List UInt8 × WrT → Bool) {q : Nat} (hq : q < L.length) : (L.take (q + 1)).any f = ((L.take q).any f || f L[q]) := by
  rw [List.take_succ_eq_append_getElem hq, List.any_append]; simp
set_option maxRecDepth 100000 in
set_option maxHeartbeats 8000000 in
theorem rxClash_any (h : RT W B rb b at1 vo L) (lst : List UInt8 → Int) (cl : ∀ W' key, Below W.heap.size W W' → Calls Try.prog 55 #[.pointer (some ⟨b, 0, none⟩), str key] W' fun e w' => e = .returned (.int .i64 (lst key)) ∧ Below W'.heap.size W' w') :
    Calls Try.prog 32 #[.pointer (some ⟨rb, 0, none⟩)] W fun e W' => e = .returned (.bool (L.any (fun x => decide (at1 < lst x.1)))) ∧ Below W.heap.size W W' := by
  have HR := Lib.hid h
  have HG := Lib.hid cl
  obtain ⟨a, c, rfl⟩ := h.form
  have hln := h.ln
  clear h cl
  go_enter Try.func32, Try.ntmps32
  go_wp2_with fail
  go_loopw [3] (fun v wr => ∃ p : Nat, p ≤ L.length ∧ v = .int .i64 (p : Int) ∧ Hid ((L.take p).any (fun x => decide (at1 < lst x.1)) = false) ∧ Hid (Below W.heap.size W wr)) (fun v _ => L.length - (intOf v).toNat)
  case atStart => exact ⟨0, Nat.zero_le _, rfl, Lib.hid rfl, Lib.hid (Below.refl _ _)⟩
  case round =>
    obtain ⟨p, hp, rfl, HLO, HB⟩ := hrel
    obtain ⟨q0, q1, q2, _⟩ := (HR.out.below HB.out).cells
    by_cases hlt : p < L.length
    · have g5 : decide ((p : Int) < (L.length : Int)) = true := decide_eq_true (by omega)
      have g5' : (p : Int) < (L.length : Int) := by omega
      have g6 : (0 : Int) ≤ (p : Int) := by omega
      obtain ⟨g, cap, he, _, c0, _⟩ := (HR.out.below HB.out).get hlt
      simp only [Value.slice.injEq, true_and] at he
      obtain ⟨rfl, rfl⟩ := he
      have HAN := Lib.hid (any_prefix (fun x => decide (at1 < lst x.1)) hlt)
      have HAL : Hid (decide (at1 < lst L[p].1) = true → L.any (fun x => decide (at1 < lst x.1)) = true) := Lib.hid (fun h => List.any_eq_true.2 ⟨_, List.getElem_mem hlt, h⟩)
      have HCE : Hid (∀ W', Below W.heap.size W W' → W'.cell? ⟨g, p * 3, none⟩ = some (str L[p].1)) := Lib.hid (fun W' hb => by
        obtain ⟨g', cap', he, _, c0, _⟩ := (HR.out.below hb).get hlt
        simp only [Value.slice.injEq, Option.some.injEq, Addr.mk.injEq, and_true, true_and] at he
        obtain ⟨rfl, _⟩ := he
        exact c0)
      obtain ⟨yk, hyk⟩ : ∃ yk, yk = L[p].1 := ⟨_, rfl⟩
      rw [← hyk] at c0 HAN HAL HCE
      clear hyk
      have hb1 : Below W.heap.size W wr.drew := HB.out.trans ((Below.drewsN (Below.refl _ _) 1).mono HB.out.size)
      have HB1 := Lib.hid hb1
      have CL := Lib.hid (HG.out wr.drew yk hb1)
      obtain ⟨la, hla⟩ : ∃ la, la = lst yk := ⟨_, rfl⟩
      rw [← hla] at CL HAN HAL
      have HQ : Hid (∀ W', Below wr.drew.heap.size wr.drew W' → W'.cell? ⟨rb, 0, none⟩ = some (.pointer (some ⟨b, 0, none⟩)) ∧ W'.cell? ⟨rb, 1, none⟩ = some (.int .i64 at1) ∧ W'.cell? ⟨rb, 2, none⟩ = some (.slice (some ⟨g, 0, none⟩) L.length c) ∧ W'.cell? ⟨g, p * 3, none⟩ = some (str yk)) := Lib.hid (fun W' hb => by
        have hb2 := HB1.out.trans (hb.mono HB1.out.size)
        have := (HR.out.below hb2).cells
        exact ⟨this.1, this.2.1, this.2.2.1, HCE.out _ hb2⟩)
      clear hla hb1 HB
      by_cases hcl : at1 < la
      · have g7 : decide (at1 < la) = true := decide_eq_true hcl
        have HE : Hid (L.any (fun x => decide (at1 < lst x.1)) = true) := Lib.hid (HAL.out g7)
        clear HAN HAL HLO HCE
        go_wp2_with fail
        go_region_held3 (fun W' => W'.cell? ⟨rb, 0, none⟩ = some (.pointer (some ⟨b, 0, none⟩)) ∧ W'.cell? ⟨rb, 1, none⟩ = some (.int .i64 at1) ∧ W'.cell? ⟨rb, 2, none⟩ = some (.slice (some ⟨g, 0, none⟩) L.length c) ∧ W'.cell? ⟨g, p * 3, none⟩ = some (str yk))
          (first
            | (exact ⟨q0, q1, q2, c0⟩)
            | (exact HQ.out _ hb9)
            | go_keep)
          ((first
            | (go_at_call 55; refine CL.out.mono ?_; rintro e w9 ⟨rfl, hb9⟩)
            | fail))
        all_goals
          have HX := Lib.hid (HB1.out.trans (hb9.mono HB1.out.size))
          clear hb9
          go_wp2_with fail
          go_ret
          exact ⟨by rw [HE.out]; rfl, HX.out⟩
      · have g7 : decide (at1 < la) = false := decide_eq_false hcl
        have HN : Hid ((L.take (p + 1)).any (fun x => decide (at1 < lst x.1)) = false) := Lib.hid (by rw [HAN.out, HLO.out, g7]; rfl)
        clear HAN HAL HLO HCE
        go_wp2_with fail
        go_region_held3 (fun W' => W'.cell? ⟨rb, 0, none⟩ = some (.pointer (some ⟨b, 0, none⟩)) ∧ W'.cell? ⟨rb, 1, none⟩ = some (.int .i64 at1) ∧ W'.cell? ⟨rb, 2, none⟩ = some (.slice (some ⟨g, 0, none⟩) L.length c) ∧ W'.cell? ⟨g, p * 3, none⟩ = some (str yk))
          (first
            | (exact ⟨q0, q1, q2, c0⟩)
            | (exact HQ.out _ hb9)
            | go_keep)
          ((first
            | (go_at_call 55; refine CL.out.mono ?_; rintro e w9 ⟨rfl, hb9⟩)
            | fail))
        all_goals
          have HX := Lib.hid (HB1.out.trans (hb9.mono HB1.out.size))
          clear hb9
          go_wp2_with fail
          go_roundw
          case rel => exact ⟨p + 1, by omega, by go_num, HN, HX⟩
          case measure => simp [intOf]; omega
    · obtain rfl : p = L.length := by omega
      have g5 : decide ((L.length : Int) < (L.length : Int)) = false := decide_eq_false (by omega)
      have g5' : ¬ (L.length : Int) < (L.length : Int) := by omega
      have HE : Hid (L.any (fun x => decide (at1 < lst x.1)) = false) := Lib.hid (by have := HLO.out; rwa [List.take_length] at this)
      clear HLO
      go_wp2_with fail
      go_ret
      exact ⟨by rw [HE.out]; rfl, HB.out⟩
end Go.Proofs.Ytcgjiddiegepkaa

/- Both stores, both transactions, an operation's box. -/
namespace Go.Proofs.Ytcgjiddiegepkaa
open Go.RowKit
/-- What is gone has no value. -/
def OkC (D : ChC) : Prop := ∀ p ∈ D, ∀ x ∈ p.2, x.2.2 = true → x.2.1 = []
theorem mem_insO {Y : Type} {k : List UInt8} {y : Y} {p : List UInt8 × Y} : ∀ {l : List (List UInt8 × Y)}, p ∈ insB k y l → p = (k, y) ∨ p ∈ l
  | [], h => by simp [insB] at h; exact .inl h
  | (k', y') :: t, h => by
    unfold insB at h
    split at h
    · rcases List.mem_cons.1 h with rfl | h
      · exact .inl rfl
      · exact .inr h
    · split at h
      · rcases List.mem_cons.1 h with rfl | h
        · exact .inr (by simp)
        · rcases mem_insO h with h | h
          · exact .inl h
          · exact .inr (List.mem_cons_of_mem _ h)
      · rcases List.mem_cons.1 h with rfl | h
        · exact .inl rfl
        · exact .inr (List.mem_cons_of_mem _ h)
theorem mem_getO {Y : Type} {k : List UInt8} {y : Y} : ∀ {l : List (List UInt8 × Y)}, getB k l = some y → ∃ p ∈ l, p.2 = y
  | [], h => by simp [getB] at h
  | (k', y') :: t, h => by
    unfold getB at h
    split at h
    · cases h
    · split at h
      · obtain ⟨p, hp, e⟩ := mem_getO h
        exact ⟨p, List.mem_cons_of_mem _ hp, e⟩
      · simp only [Option.some.injEq] at h
        exact ⟨(k', y'), by simp, h⟩
theorem okC_ver {D : ChC} (h : OkC D) (key : List UInt8) : ∀ x ∈ verC key D, x.2.2 = true → x.2.1 = [] := by
  intro x hx
  unfold verC at hx
  cases e : getB key D with
  | none => rw [e] at hx; cases hx
  | some y =>
    rw [e] at hx
    obtain ⟨p, hp, rfl⟩ := mem_getO e
    exact h p hp x hx
theorem okC_put {D : ChC} (h : OkC D) (low : Int) (key : List UInt8) (v : VerVS) (hv : v.2.2 = true → v.2.1 = []) : OkC (putC D low key v) := by
  unfold putC
  split
  · intro p hp
    rcases mem_insO hp with rfl | hp
    · intro x hx
      rcases List.mem_append.1 hx with hx | hx
      · exact okC_ver h key x hx
      · simp only [List.mem_cons, List.not_mem_nil, or_false] at hx
        subst hx; exact hv
    · exact h p hp
  · exact h
theorem okC_fold (l : List Op11) : ∀ C : ChC, OkC C → OkC (l.foldl stepC C) := by
  induction l with
  | nil => intro C h; exact h
  | cons o t ih =>
    intro C h
    refine ih _ ?_
    unfold stepC
    split
    · exact h
    · split
      · exact okC_put h 0 _ _ (fun h => (by cases h))
      · split
        · exact okC_put h 0 _ _ (fun _ => rfl)
        · exact h
theorem okC_stores (l : List Op11) : OkC (storesC l) := okC_fold _ [] (fun _ h => by cases h)
/-- Both stores, both transactions; E: blocks kept for others. -/
structure PE (X W : World) (B s mb b : Nat) (C D : ChC) (n tb wb : Nat) (at1 : Int) (L : OwnL) (k rb : Nat) (M : OwnL) (E : Nat → Prop) (vo : Value) (R : List RRow) (vt : Value) : Prop where
  sg : SG X (fun i => RK b vo R i ∨ BlkT rb vt i ∨ i = tb ∨ i = wb ∨ E i) W s mb C 0 n
  rs : RS W B b vo R 0
  cr : chR R = D
  t : TxS W tb s wb at1 L k
  rt : RT W B rb b at1 vt M
  a1 : ∀ i, RK b vo R i → ¬ BlkT rb vt i ∧ i ≠ tb ∧ i ≠ wb ∧ ¬ E i
  a2 : ∀ i, BlkT rb vt i → i ≠ tb ∧ i ≠ wb ∧ ¬ E i
  a3 : ∀ i, E i → i ≠ tb ∧ i ≠ wb
  lo : X.heap.size ≤ B ∧ X.heap.size ≤ tb ∧ X.heap.size ≤ wb
variable {X W : World} {B s mb b : Nat} {C D : ChC} {n tb wb : Nat} {at1 : Int} {L : OwnL} {k rb : Nat} {M : OwnL} {E : Nat → Prop} {vo : Value} {R : List RRow} {vt : Value}
theorem SG.klt {K : Nat → Prop} {low : Int} (h : SG X K W s mb C low n) {i : Nat} (hi : K i) : i < W.heap.size := by
  obtain ⟨t, S, _, _, _, _, h6⟩ := h
  exact (h6 i hi).1
theorem PE.below {W' : World} (h : PE X W B s mb b C D n tb wb at1 L k rb M E vo R vt) (hb : Below W.heap.size W W') : PE X W' B s mb b C D n tb wb at1 L k rb M E vo R vt :=
  ⟨h.sg.below hb, h.rs.below hb, h.cr, h.t.below hb, h.rt.below hb, h.a1, h.a2, h.a3, h.lo⟩
theorem PE.wide {n' k' : Nat} (h : PE X W B s mb b C D n tb wb at1 L k rb M E vo R vt) (hn : n ≤ n') (hk : k ≤ k') : PE X W B s mb b C D n' tb wb at1 L k' rb M E vo R vt :=
  ⟨h.sg.wide hn, h.rs, h.cr, h.t.wide hk, h.rt, h.a1, h.a2, h.a3, h.lo⟩
theorem PE.less (h : PE X W B s mb b C D n tb wb at1 L k rb M E vo R vt) : PE X W B s mb b C D n tb wb at1 L k rb M (fun _ => False) vo R vt :=
  ⟨h.sg.weak (fun i hi => by rcases hi with hi | hi | hi | hi | hi; exact .inl hi; exact .inr (.inl hi); exact .inr (.inr (.inl hi)); exact .inr (.inr (.inr (.inl hi))); exact hi.elim), h.rs, h.cr, h.t, h.rt, fun i hi => ⟨(h.a1 i hi).1, (h.a1 i hi).2.1, (h.a1 i hi).2.2.1, fun e => e⟩, fun i hi => ⟨(h.a2 i hi).1, (h.a2 i hi).2.1, fun e => e⟩, fun i e => e.elim, h.lo⟩
/-- A new block is kept. -/
theorem PE.box {o : Obj} (h : PE X W B s mb b C D n tb wb at1 L k rb M (fun _ => False) vo R vt) : PE X (W.alloc o) B s mb b C D n tb wb at1 L k rb M (fun i => i = W.heap.size) vo R vt := by
  have hb : Below W.heap.size W (W.alloc o) := below_alloc W o
  have hl : ∀ i, (RK b vo R i ∨ BlkT rb vt i ∨ i = tb ∨ i = wb ∨ False) → i < W.heap.size := fun i hi => h.sg.klt hi
  refine ⟨h.sg.fresh hb (fun i hi => ?_), h.rs.below hb, h.cr, h.t.below hb, h.rt.below hb, fun i hi => ⟨(h.a1 i hi).1, (h.a1 i hi).2.1, (h.a1 i hi).2.2.1, fun e => by have := hl i (.inl hi); omega⟩, fun i hi => ⟨(h.a2 i hi).1, (h.a2 i hi).2.1, fun e => by have := hl i (.inr (.inl hi)); omega⟩, fun i e => ?_, h.lo⟩
  · rcases hi with hi | hi | hi | hi | hi
    · exact ⟨Nat.lt_of_lt_of_le (hl i (.inl hi)) hb.size, .inr (.inl hi)⟩
    · exact ⟨Nat.lt_of_lt_of_le (hl i (.inr (.inl hi))) hb.size, .inr (.inr (.inl hi))⟩
    · exact ⟨Nat.lt_of_lt_of_le (hl i (.inr (.inr (.inl hi)))) hb.size, .inr (.inr (.inr (.inl hi)))⟩
    · exact ⟨Nat.lt_of_lt_of_le (hl i (.inr (.inr (.inr (.inl hi))))) hb.size, .inr (.inr (.inr (.inr (.inl hi))))⟩
    · exact ⟨by rw [hi]; simp, .inl (by rw [hi]; exact Nat.le_refl _)⟩
  · have h1 := h.t.lt
    rw [e]
    omega
theorem PE.tt (h : PE X W B s mb b C D n tb wb at1 L k rb M E vo R vt) : TT X W s mb C 0 n tb wb at1 L k :=
  ⟨h.sg.weak (fun i hi => by rcases hi with hi | hi; exact .inr (.inr (.inl hi)); exact .inr (.inr (.inr (.inl hi)))), h.t, h.lo.2.1, h.lo.2.2⟩
/-- The program's transaction has written. -/
theorem PE.wrote {W' : World} {L' : OwnL} {k' : Nat} (h : PE X W B s mb b C D n tb wb at1 L k rb M E vo R vt) (h1 : TxS W' tb s wb at1 L' k') (h2 : Frm (fun i => i = wb) W W') : PE X W' B s mb b C D n tb wb at1 L' k' rb M E vo R vt ∧ ∀ i, E i → W'.heap[i]? = W.heap[i]? :=
  ⟨⟨h.sg.turn h2 (h.t.seven 5 (by decide)) (fun i hi => .inr (.inr (.inr (.inl hi)))) (fun i hi => by cases hi; exact h.lo.2.2), h.rs.frm h2 (fun i hi => (h.a1 i (.inl hi)).2.2.1) (fun r hr j hj => (h.a1 j (.inr ⟨r, hr, hj⟩)).2.2.1), h.cr, h1, h.rt.frm h2 (fun i hi => (h.a2 i hi).2.1), h.a1, h.a2, h.a3, h.lo⟩,
    fun i hi => h2.block i (h.sg.klt (.inr (.inr (.inr (.inr hi))))) (h.a3 i hi).2⟩
/-- The document's transaction has written. -/
theorem PE.rwrote {W' : World} {w : WrT} {e : Ending} (h : PE X W B s mb b C D n tb wb at1 L k rb M E vo R vt) (hw : WrtP W B rb b at1 vt M w e W') : e = .returned (.int .i64 (wrC M w)) ∧ (∃ vt', PE X W' B s mb b C D n tb wb at1 L k rb (wrL M w) E vo R vt') ∧ ∀ i, E i → W'.heap[i]? = W.heap[i]? := by
  obtain ⟨he, vt', h1, h2, h3⟩ := hw
  have hl : ∀ i, (RK b vo R i ∨ BlkT rb vt i ∨ i = tb ∨ i = wb ∨ E i) → i < W.heap.size := fun i hi => h.sg.klt hi
  have ht := h.t.lt
  refine ⟨he, ⟨vt', h.sg.turn2 h2 (h.rt.sz 5 (by decide)) (fun i hi => .inr (.inl hi)) (fun i hi => Nat.le_trans h.lo.1 (h.rt.blk i hi).1) (fun i hi => ?_), h.rs.frm h2 (fun i hi => (h.a1 i (.inl hi)).1) (fun r hr j hj => (h.a1 j (.inr ⟨r, hr, hj⟩)).1), h.cr, h.t.frm h2 (h.rt.sz 7 (by decide)) (fun e => (h.a2 _ e).1 rfl) (fun e => (h.a2 _ e).2.1 rfl), h1, fun i hi => ⟨fun e => ?_, (h.a1 i hi).2⟩, fun i hi => ?_, h.a3, h.lo⟩, fun i hi => h2.block i (hl i (.inr (.inr (.inr (.inr hi))))) (fun e => (h.a2 i e).2.2 hi)⟩
  · rcases hi with hi | hi | hi | hi | hi
    · exact ⟨Nat.lt_of_lt_of_le (hl i (.inl hi)) h2.size, .inr (.inl hi)⟩
    · exact ⟨(h1.blk i hi).2, (h3 i hi).symm.imp id (fun e => .inr (.inl e))⟩
    · exact ⟨Nat.lt_of_lt_of_le (hl i (.inr (.inr (.inl hi)))) h2.size, .inr (.inr (.inr (.inl hi)))⟩
    · exact ⟨Nat.lt_of_lt_of_le (hl i (.inr (.inr (.inr (.inl hi))))) h2.size, .inr (.inr (.inr (.inr (.inl hi))))⟩
    · exact ⟨Nat.lt_of_lt_of_le (hl i (.inr (.inr (.inr (.inr hi))))) h2.size, .inr (.inr (.inr (.inr (.inr hi))))⟩
  · rcases h3 i e with q | q
    · exact (h.a1 i hi).1 q
    · have := hl i (.inl hi); omega
  · rcases h3 i hi with q | q
    · exact h.a2 i q
    · exact ⟨by omega, by omega, fun e => by have := hl i (.inr (.inr (.inr (.inr e)))); omega⟩
/-- The program's store has turned. -/
theorem PE.stored {key : List UInt8} {v : VerVS} {c : Int} (h : PE X W B s mb b C D n tb wb at1 L k rb M E vo R vt) {f : Nat} {args : Array Value}
    (hp : ∀ K, SG X K W s mb C 0 n → Calls Try.prog f args W fun e W' => e = .returned (.int .i64 c) ∧ SG X K W' s mb (putC C 0 key v) 0 (n + 1) ∧ Kp K W W') :
    Calls Try.prog f args W fun e W' => e = .returned (.int .i64 c) ∧ PE X W' B s mb b (putC C 0 key v) D (n + 1) tb wb at1 L k rb M E vo R vt ∧ ∀ i, E i → W'.heap[i]? = W.heap[i]? := by
  have hg : SG X (fun i => (RK b vo R i ∨ BlkT rb vt i ∨ i = tb ∨ i = wb ∨ E i) ∨ ∃ cs T z, W.heap[i]? = some (.cells cs T z) ∧ cs.size = 7) W s mb C 0 n := h.sg.more (fun i hi => by
      rcases hi with hi | ⟨cs, T, z, hc, _⟩
      · exact h.sg.klt hi
      · exact (Array.getElem?_eq_some_iff.1 hc).1) (fun i hi => .inr hi)
  refine (hp _ hg).mono ?_
  rintro e W' ⟨rfl, g1, g2⟩
  have g3 : Frm (fun i => ¬ ((RK b vo R i ∨ BlkT rb vt i ∨ i = tb ∨ i = wb ∨ E i) ∨ ∃ cs T z, W.heap[i]? = some (.cells cs T z) ∧ cs.size = 7)) W W' := g2
  have h7 : ∀ i, ¬ ((RK b vo R i ∨ BlkT rb vt i ∨ i = tb ∨ i = wb ∨ E i) ∨ ∃ cs T z, W.heap[i]? = some (.cells cs T z) ∧ cs.size = 7) → ∀ cs T z, W.heap[i]? = some (.cells cs T z) → cs.size ≠ 7 := fun i hi cs T z hc e => hi (.inr ⟨cs, T, z, hc, e⟩)
  exact ⟨rfl, ⟨g1.weak (fun i hi => .inl hi), h.rs.frm g3 (fun i hi hn => hn (.inl (.inl (.inl hi)))) (fun r hr j hj hn => hn (.inl (.inl (.inr ⟨r, hr, hj⟩)))), h.cr, h.t.frm g3 h7 (fun hn => hn (.inl (.inr (.inr (.inl rfl))))) (fun hn => hn (.inl (.inr (.inr (.inr (.inl rfl)))))), h.rt.frm g3 (fun i hi hn => hn (.inl (.inr (.inl hi)))), h.a1, h.a2, h.a3, h.lo⟩,
    fun i hi => g3.block i (h.sg.klt (.inr (.inr (.inr (.inr hi))))) (fun hn => hn (.inl (.inr (.inr (.inr (.inr hi))))))⟩
theorem RS.seven {low : Int} (h : RS W B b vo R low) : ∀ i, BlkR b vo i → ∀ cs T z, W.heap[i]? = some (.cells cs T z) → cs.size ≠ 7 := by
  intro i hi cs T z hc
  rcases hi with rfl | hi
  · rw [h.box] at hc
    simp only [Option.some.injEq, Obj.cells.injEq] at hc
    rw [← hc.1]; simp
  · obtain ⟨cap, e⟩ := owns_size h.row hi hc
    omega
/-- The document's store has turned. -/
theorem PE.rstored {W' : World} {key : List UInt8} {v : VerVS} {e : Ending} (h : PE X W B s mb b C D n tb wb at1 L k rb M E vo R vt) (ha : RAddP W B b vo R 0 key v e W') : e = .returned (.int .i64 (addCVS (verC key D) 0 v)) ∧ (∃ vo' R', PE X W' B s mb b C (putC D 0 key v) n tb wb at1 L k rb M E vo' R' vt) ∧ ∀ i, E i → W'.heap[i]? = W.heap[i]? := by
  obtain ⟨he, vo', R', g1, g2, g3, g4, g5⟩ := ha
  rw [h.cr] at he g2
  have hl : ∀ i, (RK b vo R i ∨ BlkT rb vt i ∨ i = tb ∨ i = wb ∨ E i) → i < W.heap.size := fun i hi => h.sg.klt hi
  have ht := h.t.lt
  have hold : ∀ i, RK b vo' R' i → RK b vo R i ∨ W.heap.size ≤ i := by
    rintro i (hi | ⟨r, hr, hj⟩)
    · exact (g4 i hi).imp (fun q => .inl q) id
    · exact (g5 r hr i hj).imp (fun q => .inr q) id
  refine ⟨he, ⟨vo', R', h.sg.turn2 g3 h.rs.five (fun i hi => .inl (.inl hi)) (fun i hi => Nat.le_trans h.lo.1 (h.rs.blk i hi).1) (fun i hi => ?_), g1, g2, h.t.frm g3 h.rs.seven (fun e => (h.a1 _ (.inl e)).2.1 rfl) (fun e => (h.a1 _ (.inl e)).2.2.1 rfl), h.rt.frm g3 (fun i hi e => (h.a1 i (.inl e)).1 hi), fun i hi => ?_, h.a2, h.a3, h.lo⟩, fun i hi => g3.block i (hl i (.inr (.inr (.inr (.inr hi))))) (fun e => (h.a1 i (.inl e)).2.2.2 hi)⟩
  · rcases hi with hi | hi
    · exact ⟨g1.rk i hi, (hold i hi).symm.imp id (fun q => .inl q)⟩
    · exact ⟨Nat.lt_of_lt_of_le (hl i (.inr hi)) g3.size, .inr (.inr hi)⟩
  · rcases hold i hi with q | q
    · exact h.a1 i q
    · refine ⟨fun e => ?_, by omega, by omega, fun e => ?_⟩
      · have := hl i (.inr (.inl e)); omega
      · have := hl i (.inr (.inr (.inr (.inr e)))); omega
/-- With an operation's box. -/
def PY (X W : World) (B s mb b : Nat) (C D : ChC) (n tb wb : Nat) (at1 : Int) (L : OwnL) (k rb : Nat) (M : OwnL) (ob : Nat) (cs : Array Value) : Prop := ∃ vo R vt, PE X W B s mb b C D n tb wb at1 L k rb M (fun i => i = ob) vo R vt ∧ W.heap[ob]? = some (.cells cs 36 (0, 0))
def PZ (X W : World) (B s mb b : Nat) (C D : ChC) (n tb wb : Nat) (at1 : Int) (L : OwnL) (k rb : Nat) (M : OwnL) : Prop := ∃ vo R vt, PE X W B s mb b C D n tb wb at1 L k rb M (fun _ => False) vo R vt
variable {ob : Nat} {cs : Array Value}
theorem PY.z (h : PY X W B s mb b C D n tb wb at1 L k rb M ob cs) : PZ X W B s mb b C D n tb wb at1 L k rb M := by
  obtain ⟨vo, R, vt, h1, _⟩ := h
  exact ⟨vo, R, vt, h1.less⟩
theorem PZ.box (h : PZ X W B s mb b C D n tb wb at1 L k rb M) : PY X (W.alloc (.cells cs 36)) B s mb b C D n tb wb at1 L k rb M W.heap.size cs := by
  obtain ⟨vo, R, vt, h1⟩ := h
  exact ⟨vo, R, vt, h1.box, heap_alloc_new _ _⟩
theorem PY.below {W' : World} (h : PY X W B s mb b C D n tb wb at1 L k rb M ob cs) (hb : Below W.heap.size W W') : PY X W' B s mb b C D n tb wb at1 L k rb M ob cs := by
  obtain ⟨vo, R, vt, h1, h2⟩ := h
  exact ⟨vo, R, vt, h1.below hb, box_upR h2 hb⟩
theorem PZ.below {W' : World} (h : PZ X W B s mb b C D n tb wb at1 L k rb M) (hb : Below W.heap.size W W') : PZ X W' B s mb b C D n tb wb at1 L k rb M := by
  obtain ⟨vo, R, vt, h1⟩ := h
  exact ⟨vo, R, vt, h1.below hb⟩
theorem PZ.wide {n' k' : Nat} (h : PZ X W B s mb b C D n tb wb at1 L k rb M) (hn : n ≤ n') (hk : k ≤ k') : PZ X W B s mb b C D n' tb wb at1 L k' rb M := by
  obtain ⟨vo, R, vt, h1⟩ := h
  exact ⟨vo, R, vt, h1.wide hn hk⟩
theorem PY.cell (h : PY X W B s mb b C D n tb wb at1 L k rb M ob cs) (j : Nat) : W.cell? ⟨ob, j, none⟩ = cs[j]? := by
  obtain ⟨_, _, _, _, h2⟩ := h
  simp [World.cell?, h2]
theorem PZ.tt (h : PZ X W B s mb b C D n tb wb at1 L k rb M) : TT X W s mb C 0 n tb wb at1 L k := by
  obtain ⟨vo, R, vt, h1⟩ := h
  exact h1.tt
theorem pyPut (h : PY X W B s mb b C D n tb wb at1 L k rb M ob cs) (hk : k ≤ 100000) (x y : List UInt8) (hx : x.length ≤ 9223372036854775807) (hy : y.length ≤ 9223372036854775807) :
    Calls Try.prog 14 #[.pointer (some ⟨tb, 0, none⟩), str x, str y] W fun e W' => e = .returned (.int .i64 (wrC L (x, y, false))) ∧ PY X W' B s mb b C D n tb wb at1 (wrL L (x, y, false)) (k + 1) rb M ob cs := by
  obtain ⟨vo, R, vt, h1, h2⟩ := h
  refine (txPut h1.t hk x y hx hy).mono ?_
  rintro e W' ⟨rfl, g1, g2⟩
  obtain ⟨g3, g4⟩ := h1.wrote g1 g2
  exact ⟨rfl, vo, R, vt, g3, by rw [g4 _ rfl]; exact h2⟩
theorem pyDelete (h : PY X W B s mb b C D n tb wb at1 L k rb M ob cs) (hk : k ≤ 100000) (x : List UInt8) (hx : x.length ≤ 9223372036854775807) :
    Calls Try.prog 16 #[.pointer (some ⟨tb, 0, none⟩), str x] W fun e W' => e = .returned (.int .i64 (wrC L (x, [], true))) ∧ PY X W' B s mb b C D n tb wb at1 (wrL L (x, [], true)) (k + 1) rb M ob cs := by
  obtain ⟨vo, R, vt, h1, h2⟩ := h
  refine (txDelete h1.t hk x hx).mono ?_
  rintro e W' ⟨rfl, g1, g2⟩
  obtain ⟨g3, g4⟩ := h1.wrote g1 g2
  exact ⟨rfl, vo, R, vt, g3, by rw [g4 _ rfl]; exact h2⟩
theorem pyRPut (h : PY X W B s mb b C D n tb wb at1 L k rb M ob cs) (x y : List UInt8) (hx : x.length ≤ 9223372036854775807) (hy : y.length ≤ 9223372036854775807) :
    Calls Try.prog 15 #[.pointer (some ⟨rb, 0, none⟩), str x, str y] W fun e W' => e = .returned (.int .i64 (wrC M (x, y, false))) ∧ PY X W' B s mb b C D n tb wb at1 L k rb (wrL M (x, y, false)) ob cs := by
  obtain ⟨vo, R, vt, h1, h2⟩ := h
  refine (rxPut_any h1.rt x y hx hy).mono ?_
  intro e W' hw
  obtain ⟨rfl, ⟨vt', g3⟩, g4⟩ := h1.rwrote hw
  exact ⟨rfl, vo, R, vt', g3, by rw [g4 _ rfl]; exact h2⟩
theorem pyRDelete (h : PY X W B s mb b C D n tb wb at1 L k rb M ob cs) (x : List UInt8) (hx : x.length ≤ 9223372036854775807) :
    Calls Try.prog 17 #[.pointer (some ⟨rb, 0, none⟩), str x] W fun e W' => e = .returned (.int .i64 (wrC M (x, [], true))) ∧ PY X W' B s mb b C D n tb wb at1 L k rb (wrL M (x, [], true)) ob cs := by
  obtain ⟨vo, R, vt, h1, h2⟩ := h
  refine (rxDelete_any h1.rt x hx).mono ?_
  intro e W' hw
  obtain ⟨rfl, ⟨vt', g3⟩, g4⟩ := h1.rwrote hw
  exact ⟨rfl, vo, R, vt', g3, by rw [g4 _ rfl]; exact h2⟩
theorem pySPut (h : PY X W B s mb b C D n tb wb at1 L k rb M ob cs) (hn : n ≤ 10000) (key : List UInt8) (tm : Int) (x : List UInt8) :
    Calls Try.prog 25 #[.pointer (some ⟨s, 0, none⟩), .int .i64 tm, str key, str x] W fun e W' => e = .returned (.int .i64 (addCVS (verC key C) 0 (tm, x, false))) ∧ PY X W' B s mb b (putC C 0 key (tm, x, false)) D (n + 1) tb wb at1 L k rb M ob cs := by
  obtain ⟨vo, R, vt, h1, h2⟩ := h
  refine (h1.stored (fun K hk => putG hk hn key tm x)).mono ?_
  rintro e W' ⟨rfl, g3, g4⟩
  exact ⟨rfl, vo, R, vt, g3, by rw [g4 _ rfl]; exact h2⟩
theorem pySKill (h : PY X W B s mb b C D n tb wb at1 L k rb M ob cs) (hn : n ≤ 10000) (key : List UInt8) (tm : Int) :
    Calls Try.prog 27 #[.pointer (some ⟨s, 0, none⟩), .int .i64 tm, str key] W fun e W' => e = .returned (.int .i64 (addCVS (verC key C) 0 (tm, [], true))) ∧ PY X W' B s mb b (putC C 0 key (tm, [], true)) D (n + 1) tb wb at1 L k rb M ob cs := by
  obtain ⟨vo, R, vt, h1, h2⟩ := h
  refine (h1.stored (fun K hk => killG hk hn key tm)).mono ?_
  rintro e W' ⟨rfl, g3, g4⟩
  exact ⟨rfl, vo, R, vt, g3, by rw [g4 _ rfl]; exact h2⟩
theorem pyXPut (h : PY X W B s mb b C D n tb wb at1 L k rb M ob cs) (hd : D.length ≤ 100000) (ht : totC D ≤ 100000) (key : List UInt8) (tm : Int) (x : List UInt8) :
    Calls Try.prog 26 #[.pointer (some ⟨b, 0, none⟩), .int .i64 tm, str key, str x] W fun e W' => e = .returned (.int .i64 (addCVS (verC key D) 0 (tm, x, false))) ∧ PY X W' B s mb b C (putC D 0 key (tm, x, false)) n tb wb at1 L k rb M ob cs := by
  obtain ⟨vo, R, vt, h1, h2⟩ := h
  have hb := chR_bound h1.cr hd ht
  refine (rput_any h1.rs hb.1 hb.2 key tm x).mono ?_
  intro e W' hw
  obtain ⟨rfl, ⟨vo', R', g3⟩, g4⟩ := h1.rstored hw
  exact ⟨rfl, vo', R', vt, g3, by rw [g4 _ rfl]; exact h2⟩
theorem pyXKill (h : PY X W B s mb b C D n tb wb at1 L k rb M ob cs) (hd : D.length ≤ 100000) (ht : totC D ≤ 100000) (key : List UInt8) (tm : Int) :
    Calls Try.prog 28 #[.pointer (some ⟨b, 0, none⟩), .int .i64 tm, str key] W fun e W' => e = .returned (.int .i64 (addCVS (verC key D) 0 (tm, [], true))) ∧ PY X W' B s mb b C (putC D 0 key (tm, [], true)) n tb wb at1 L k rb M ob cs := by
  obtain ⟨vo, R, vt, h1, h2⟩ := h
  have hb := chR_bound h1.cr hd ht
  refine (rkill_any h1.rs hb.1 hb.2 key tm).mono ?_
  intro e W' hw
  obtain ⟨rfl, ⟨vo', R', g3⟩, g4⟩ := h1.rstored hw
  exact ⟨rfl, vo', R', vt, g3, by rw [g4 _ rfl]; exact h2⟩
/-- What both tell alike, where both stores and both transactions are alike. -/
theorem PZ.bnd (h : PZ X W B s mb b C C n tb wb at1 L k rb L) : C.length ≤ n ∧ totC C ≤ n ∧ (∀ p ∈ C, RisT (timesVS p.2)) ∧ RisB C ∧ RisB L ∧ L.length ≤ 1000 := by
  obtain ⟨vo, R, vt, h1⟩ := h
  have hr := h1.sg.ris
  obtain ⟨t, S, _, _, _, h4, _⟩ := h1.sg
  exact ⟨hr.2.2, h4, hr.1, hr.2.1, h1.rt.rs, h1.rt.ln⟩
theorem pzGet (h : PZ X W B s mb b C C n tb wb at1 L k rb L) (hn : n ≤ 10000) (ho : OkC C) (key : List UInt8) :
    Calls Try.prog 19 #[.pointer (some ⟨rb, 0, none⟩), str key] W fun e W' => e = txG L key (seenVS (verC key C) at1) ∧ Below W.heap.size W W' := by
  obtain ⟨c1, c2, c3, _⟩ := h.bnd
  obtain ⟨vo, R, vt, h1⟩ := h
  have hb := chR_bound h1.cr (by omega) (by omega)
  refine rxGet_any h1.rt key _ (fun W' hbl => ?_)
  have hcr := h1.cr
  subst hcr
  have hm : ∀ r ∈ R, (r.1, r.2.2) ∈ chR R := fun r hr' => List.mem_map.2 ⟨r, hr', rfl⟩
  exact rget_any (h1.rs.below hbl) (by omega) (fun r hr' => ⟨c3 _ (hm r hr'), by have := hb.2 r hr'; omega, ho _ (hm r hr')⟩) key at1
theorem pzClash (h : PZ X W B s mb b C C n tb wb at1 L k rb L) (hn : n ≤ 10000) :
    Calls Try.prog 32 #[.pointer (some ⟨rb, 0, none⟩)] W fun e W' => e = .returned (.bool (L.any (fun x => decide (at1 < lastTVS (verC x.1 C))))) ∧ Below W.heap.size W W' := by
  obtain ⟨c1, c2, c3, _⟩ := h.bnd
  obtain ⟨vo, R, vt, h1⟩ := h
  have hb := chR_bound h1.cr (by omega) (by omega)
  refine rxClash_any h1.rt (fun key => lastTVS (verC key C)) (fun W' key hbl => ?_)
  have hcr := h1.cr
  subst hcr
  exact rlast_any (h1.rs.below hbl) (by omega) (fun r hr' => by have := hb.2 r hr'; omega) key
theorem pzScan (h : PZ X W B s mb b C C n tb wb at1 L k rb L) (hn : n ≤ 10000) (ho : OkC C) (lo hi : List UInt8) :
    Calls Try.prog 30 #[.pointer (some ⟨rb, 0, none⟩), str lo, str hi] W (PrsP W (sawR lo hi at1 C L)) := by
  obtain ⟨c1, c2, c3, c4, c5, c6⟩ := h.bnd
  obtain ⟨vo, R, vt, h1⟩ := h
  have hb := chR_bound h1.cr (by omega) (by omega)
  have e : sawF (inR lo hi) (scanH lo hi at1 C) L = sawR lo hi at1 C L := by
    rw [scanH_eq]
    exact sawF_eq (scan_ris c4) c5
  have hl := scanH_len lo hi at1 C
  have := rxScan_any h1.rt lo hi (scanH lo hi at1 C) (by rw [scanH_eq]; exact ris_filter (scan_ris c4) _) (by omega) (fun z hz => by rw [scanH_eq] at hz; exact (List.mem_filter.1 hz).2) (fun W' hbl => by
    have hcr := h1.cr
    subst hcr
    have hm : ∀ r ∈ R, (r.1, r.2.2) ∈ chR R := fun r hr' => List.mem_map.2 ⟨r, hr', rfl⟩
    exact rscan_any (h1.rs.below hbl) (by omega) (fun r hr' => ⟨c3 _ (hm r hr'), by have := hb.2 r hr'; omega, ho _ (hm r hr')⟩) lo hi at1)
  rw [e] at this
  exact this
theorem pzPrefix (h : PZ X W B s mb b C C n tb wb at1 L k rb L) (hn : n ≤ 10000) (ho : OkC C) (p : List UInt8) (hp : p.length ≤ 9223372036854775807) :
    Calls Try.prog 23 #[.pointer (some ⟨rb, 0, none⟩), str p] W (PrsP W (sawR p (behP p) at1 C L)) := by
  obtain ⟨c1, c2, c3, c4, c5, c6⟩ := h.bnd
  have hl := sawR_len p [] at1 C L
  have hr : RisB (sawR p [] at1 C L) := ris_filter (ris_saw _ _ (scan_ris c4) c5) _
  have := rxPrefix_any p (sawR p [] at1 C L) (by omega) hr (fun z hz => by
    have h2 := (List.mem_filter.1 hz).2
    unfold inR at h2
    rw [Bool.and_eq_true] at h2
    simpa using h2.1) hp (pzScan h hn ho p [])
  have e : (sawR p [] at1 C L).filter (begP p) = sawR p (behP p) at1 C L := by
    unfold sawR
    rw [inR_pre, List.filter_filter]
    apply List.filter_congr
    intro z _
    cases hb : begP p z with
    | false => rfl
    | true =>
      have h1 := (pre_iff p z.1).2 (beq_iff_eq.1 hb)
      unfold inR at h1 ⊢
      rw [Bool.and_eq_true] at h1
      rw [h1.1]; rfl
  rw [e] at this
  exact this
theorem pzWrites (h : PZ X W B s mb b C D n tb wb at1 L k rb M) : Calls Try.prog 35 #[.pointer (some ⟨rb, 0, none⟩)] W fun e W' => ∃ v, e = .returned v ∧ RdW W' v (M.map Prod.snd) ∧ Below W.heap.size W W' := by
  obtain ⟨vo, R, vt, h1⟩ := h
  exact rxWrites_any h1.rt
end Go.Proofs.Ytcgjiddiegepkaa

/- TxnPlays: the walk. -/
namespace Go.Proofs.Ytcgjiddiegepkaa
open Go.RowKit
theorem txAtP {W : World} {tb s wb : Nat} {at1 : Int} {L : OwnL} {k : Nat} (h : TxS W tb s wb at1 L k) : Calls Try.prog 13 #[.pointer (some ⟨tb, 0, none⟩)] W fun e w' => e = .returned (.int .i64 at1) ∧ w' = W := by
  obtain ⟨_, c1, _⟩ := h.box.cells
  clear h
  go_enter Try.func13, Try.ntmps13
  go_wp2_with fail
  go_ret
  exact ⟨rfl, rfl⟩
theorem pz_new {X W0 W1 W : World} {s mb b : Nat} {C : ChC} {n tb wb rb : Nat} {at1 : Int} (h : JS X b W0 s mb b C 0 C 0 n) (hX : X.heap.size ≤ b) (ht : TxS W1 tb s wb at1 [] 0) (hb1 : Below W0.heap.size W0 W1) (h1 : W0.heap.size ≤ tb) (h2 : W0.heap.size ≤ wb) (hr : RT W b rb b at1 (.slice none 0 0) []) (hb2 : Below W1.heap.size W1 W) (h3 : W1.heap.size ≤ rb) : PZ X W b s mb b C C n tb wb at1 [] 0 rb [] := by
  obtain ⟨vo, R, g1, g2, g3⟩ := h
  have hb : Below W0.heap.size W0 W := hb1.trans (hb2.mono hb1.size)
  have hl : ∀ i, RK b vo R i → i < W0.heap.size := g2.rk
  have htl := ht.lt
  have hX0 := g1.bel.size
  have hB : ∀ i, BlkT rb (.slice none 0 0) i → i = rb := fun i hi => by
    rcases hi with hi | hi
    · exact hi
    · cases hi
  have hs1 := hb1.size
  refine ⟨vo, R, .slice none 0 0, ⟨g1.fresh hb (fun i hi => ?_), g2.below hb, g3, ht.below hb2, hr, fun i hi => ?_, fun i hi => ?_, fun i e => e.elim, hX, by omega, by omega⟩⟩
  · rcases hi with hi | hi | hi | hi | hi
    · exact ⟨Nat.lt_of_lt_of_le (hl i hi) hb.size, .inr hi⟩
    · rw [hB i hi]; exact ⟨hr.blt, .inl (by omega)⟩
    · rw [hi]; exact ⟨Nat.lt_of_lt_of_le htl.1 hb2.size, .inl h1⟩
    · rw [hi]; exact ⟨Nat.lt_of_lt_of_le htl.2 hb2.size, .inl h2⟩
    · exact hi.elim
  · have := hl i hi
    exact ⟨fun e => by have := hB i e; omega, by omega, by omega, fun e => e⟩
  · have := hB i hi
    exact ⟨by omega, by omega, fun e => e⟩
theorem txG_form (L : OwnL) (key : List UInt8) (r : Option (List UInt8)) : ∃ x y, txG L key r = .returned (.tuple #[str x, .bool y]) := by
  unfold txG
  cases getB key L with
  | some y => exact ⟨_, _, rfl⟩
  | none => unfold seenEVS; cases r <;> exact ⟨_, _, rfl⟩
/-- In the loop. -/
def PI (X W : World) (s mb b tb wb rb : Nat) (at1 : Int) (C : ChC) (L : OwnL) (k : Nat) : Prop := PZ X W b s mb b C C (300 + k) tb wb at1 L k rb L ∧ OkC C
theorem PI.below {X W W' : World} {s mb b tb wb rb : Nat} {at1 : Int} {C : ChC} {L : OwnL} {k : Nat} (h : PI X W s mb b tb wb rb at1 C L k) (hb : Below W.heap.size W W') : PI X W' s mb b tb wb rb at1 C L k := ⟨h.1.below hb, h.2⟩
theorem PZ.bel {X W : World} {B s mb b : Nat} {C D : ChC} {n tb wb : Nat} {at1 : Int} {L : OwnL} {k rb : Nat} {M : OwnL} (h : PZ X W B s mb b C D n tb wb at1 L k rb M) : Below X.heap.size X W := h.tt.sg.bel
theorem rdp_ownY {W : World} {base : Nat} {v : Value} {l : List PairT} (h : W.ownsRow base 63 2 v l.length (l.map cellsP).flatten) : RdP W v l :=
  RdF.of_row (fun r hr => by obtain ⟨y, _, rfl⟩ := List.mem_map.1 hr; rfl) (by simpa using h)
theorem rdw_ownY {W : World} {base : Nat} {v : Value} {l : List WrT} (h : W.ownsRow base 58 3 v l.length (l.map cellsWr).flatten) : RdW W v l := RdF.of_row (cellsWr_len l) (by simpa using h)
/-- What is told, spoilt place by place. -/
def SpL (W0 W : World) (a : Option Addr) (n c : Nat) : Prop := (∃ xs, W.ownsRow W0.heap.size 58 3 (.slice a n c) n xs) ∧ Below W0.heap.size W0 W
theorem SpL.at {W0 W : World} {a : Option Addr} {n c j : Nat} (h : SpL W0 W a n c) (hj : j < n) : ∃ g, a = some ⟨g, 0, none⟩ ∧ (∃ x, W.cell? ⟨g, j * 3, none⟩ = some x) ∧ W.frozen? ⟨g, j * 3, none⟩ = false ∧ Hid (∀ u, SpL W0 (W.setCell ⟨g, j * 3, none⟩ u) a n c) := by
  obtain ⟨⟨xs, hx⟩, hb⟩ := h
  rcases hx.2 with ⟨_, rfl⟩ | ⟨g, cap, cur, e, hg, _⟩
  · omega
  · injection e with e1 e2 e3
    subst e1
    have hl := hx.1
    refine ⟨g, rfl, ⟨xs[j * 3]'(by omega), ?_⟩, hx.frozenAt _, Lib.hid fun u => ⟨⟨_, (hx.stored (j * 3) u).1⟩, hb.grown (hx.stored (j * 3) u).2 hb.size (fun b e => by cases e; exact hg)⟩⟩
    rw [hx.cellAt _ (by omega)]
    exact List.getElem?_eq_getElem _
theorem pzLast {X W : World} {B s mb b : Nat} {C D : ChC} {n tb wb : Nat} {at1 : Int} {L : OwnL} {k rb : Nat} {M : OwnL} (h : PZ X W B s mb b C D n tb wb at1 L k rb M) (hn : n ≤ 10000) (key : List UInt8) : Calls Try.prog 24 #[.pointer (some ⟨s, 0, none⟩), str key] W fun e w' => e = .returned (.int .i64 (lastTVS (verC key C))) ∧ W = w' := by
  obtain ⟨t, S, h1, h2, _⟩ := h.tt.sg
  have := lastVS_any h1 (by omega) key
  rw [ver_chs, h2] at this
  exact this
theorem pyScanT {X W : World} {B s mb b : Nat} {C : ChC} {n tb wb : Nat} {at1 : Int} {L : OwnL} {k rb : Nat} (h : PZ X W B s mb b C C n tb wb at1 L k rb L) (hn : n ≤ 10000) (hk : k ≤ 100000) {b1 : Nat} {lo hi : List UInt8} (hL : TxL W b1 (b1 + 1) (b1 + 2) tb lo hi) :
    Calls Try.prog 21 #[.func (.func 49) #[] #[.pointer (some ⟨b1, 0, none⟩), .pointer (some ⟨b1 + 1, 0, none⟩), .pointer (some ⟨b1 + 2, 0, none⟩)], .int .i64 1048576] W (PrsP W (sawR lo hi at1 C L)) := by
  have := ttScanned h.tt hn hk hL 1048576 (by decide)
  obtain ⟨c1, _, _, _, _, c6⟩ := h.bnd
  have hl := sawR_len lo hi at1 C L
  rwa [List.take_of_length_le (by show _ ≤ 1048576; omega)] at this
set_option maxRecDepth 100000 in
set_option maxHeartbeats 16000000 in
theorem plays12_walk (vv : Value) (l : List Op11) (at1 : Int) (va : Value) (A : List Op12) (w : World) (hv : Rd11 w vv l) (hsv : ∀ o ∈ l, o.ok) (ha : Rd12 w va A) (hsa : ∀ o ∈ A, o.ok) (hat : -9223372036854775808 ≤ at1 ∧ at1 ≤ 9223372036854775807) :
    Calls Try.prog 3 #[vv, .int .i64 at1, va] w fun e w' => e = .returned (.bool true) ∧ Below w.heap.size w w' := by
  have CF := Lib.hid v12first_any
  have CST : Hid (∀ W, Below w.heap.size w W → Calls Try.prog 9 #[vv] W fun e W' => ∃ s mb b, e = .returned (.tuple #[.pointer (some ⟨s, 0, none⟩), .pointer (some ⟨b, 0, none⟩)]) ∧ Hid (JS W b W' s mb b (storesC l) 0 (storesC l) 0 300 ∧ W.heap.size ≤ b)) :=
    Lib.hid (fun W h => (stores_any vv l W (hv.up h) hsv).mono (by rintro e W' ⟨s, mb, b, rfl, h1, h2⟩; exact ⟨s, mb, b, rfl, Lib.hid ⟨h1, h2⟩⟩))
  have CA : Hid (∀ W, Below w.heap.size w W → Calls Try.prog 10 #[va] W (FewP12 A W)) := Lib.hid (fun W h => few12_any va A W (ha.up h) hsa)
  have HRA := Lib.hid ha
  have HAT := Lib.hid hat
  obtain ⟨aa, ca, rfl, hla0⟩ := ha.form
  obtain ⟨av, cv, rfl, _⟩ := hv.form
  clear ha hv hsv hat
  go_enter Try.func3, Try.ntmps3
  go_wp2_with fail
  refine (CF.out _).mono ?_
  rintro e w1 ⟨rfl, hb1⟩
  have H1 := Lib.hid hb1
  clear hb1
  go_wp2_with fail
  refine (CST.out _ H1.out).mono ?_
  rintro e w2 ⟨s, mb, b, rfl, H2⟩
  have HB2 : Hid (Below w.heap.size w w2) := Lib.hid (H1.out.trans (H2.out.1.bel.mono H1.out.size))
  clear CST
  go_wp2_with fail
  refine (CA.out _ HB2.out).mono ?_
  rintro e w3 ⟨fa, rfl, hfa, hb3⟩
  have H3 := Lib.hid (And.intro (H2.out.1.below hb3) H2.out.2)
  have HB3 : Hid (Below w.heap.size w w3) := Lib.hid (HB2.out.trans (hb3.mono HB2.out.size))
  clear CA H2 HB2 hb3
  cases fa
  case false =>
    clear hfa
    go_wp2_with fail
    refine (CF.out _).mono ?_
    rintro e wE ⟨rfl, hbE⟩
    have HX := Lib.hid (HB3.out.trans (hbE.mono HB3.out.size))
    clear hbE
    go_wp2_with fail
    go_ret
    exact ⟨rfl, HX.out⟩
  have hA3 : A.length ≤ 1300 := hfa rfl
  clear hfa
  have HOK0 : Hid (OkC (storesC l)) := Lib.hid (okC_stores l)
  obtain ⟨C, hC⟩ : ∃ C, C = storesC l := ⟨_, rfl⟩
  rw [← hC] at H3 HOK0
  clear hC HB3
  have CB := Lib.hid (txBegin w3 s at1)
  go_wp2_with fail
  refine CB.out.mono ?_
  rintro e w5 ⟨tb, wb, rfl, h5, hb5, h5a, h5b⟩
  have H5 := Lib.hid (And.intro h5 (And.intro hb5 (And.intro h5a h5b)))
  have CB2 := Lib.hid (rxBegin w5 b b at1 (by
    obtain ⟨vo, R, _, g2, _⟩ := H3.out.1
    have h1 := g2.blt
    have h2 := hb5.size
    omega))
  clear h5 hb5 h5a h5b CB
  go_wp2_with fail
  refine CB2.out.mono ?_
  rintro e w6 ⟨rb, rfl, h6, hb6, h6a⟩
  have H6 : Hid (PI w1 w6 s mb b tb wb rb at1 C [] 0) := Lib.hid ⟨pz_new H3.out.1 H3.out.2 H5.out.1 H5.out.2.1 H5.out.2.2.1 H5.out.2.2.2 h6 hb6 h6a, HOK0.out⟩
  clear h6 hb6 h6a CB2 H5 H3 HOK0
  have CAt := Lib.hid (txAtP H6.out.1.tt.tx)
  have nAt : (at1 != at1) = false := bne_self_eq_false _
  go_wp2_with fail
  refine CAt.out.mono ?_
  rintro e w7 ⟨rfl, rfl⟩
  clear CAt
  go_wp2_with fail
  go_loopw [11] (fun i wr => ∃ (k : Nat) (C : ChC) (L : OwnL), k ≤ A.length ∧ i = .int .i64 (k : Int) ∧ Hid (PI w1 wr s mb b tb wb rb at1 C L k)) (fun i _ => A.length - (intOf i).toNat)
  case atStart => exact ⟨0, C, [], Nat.zero_le _, rfl, H6⟩
  case round =>
    clear H6
    obtain ⟨k, C, L, hk, rfl, HG⟩ := hrel
    by_cases hlt : k < A.length
    · have g3 : decide ((k : Int) < (A.length : Int)) = true := decide_eq_true (by omega)
      have g3' : (k : Int) < (A.length : Int) := by omega
      have g4 : (0 : Int) ≤ (k : Int) := by omega
      have HW := Lib.hid (H1.out.trans (HG.out.1.bel.mono H1.out.size))
      obtain ⟨bA, oA, rfl, q0, q1, q2, q3⟩ := (HRA.out.up HW.out).get hlt
      obtain ⟨_, z2, z3, z4⟩ := hsa _ (List.getElem_mem hlt)
      obtain ⟨o, ho⟩ : ∃ o, o = A[k] := ⟨_, rfl⟩
      rw [← ho] at q0 q1 q2 q3 z2 z3 z4
      obtain ⟨kd, ky, yv, hi⟩ := o
      dsimp only at q0 q1 q2 q3 z2 z3 z4
      clear ho HW
      go_upto_block 2 with fail
      obtain ⟨ob, hob⟩ : ∃ ob, ob = wr.heap.size := ⟨_, rfl⟩
      obtain ⟨w4, hw4⟩ : ∃ w4, w4 = wr.alloc (.cells #[.int .i64 kd, str ky, str yv, str hi] 36) := ⟨_, rfl⟩
      rw [← hw4, ← hob]
      have HX4 : Hid (PY w1 w4 b s mb b C C (300 + k) tb wb at1 L k rb L ob #[.int .i64 kd, str ky, str yv, str hi]) := Lib.hid (by rw [hw4, hob]; exact HG.out.1.box)
      have HOK : Hid (OkC C) := Lib.hid HG.out.2
      clear HG q0 q1 q2 q3 hw4 hob
      have q0 : w4.cell? ⟨ob, 0, none⟩ = some (.int .i64 kd) := HX4.out.cell 0
      have HBN := Lib.hid HX4.out.z.bnd
      go_cut [13, 14, 15, 16, 17, 18] from 55 to 195 (fun ok _ _ _ _ _ wc => ∃ (C' : ChC) (L' : OwnL), ok = .bool true ∧ Hid (PI w1 wc s mb b tb wb rb at1 C' L' (k + 1)))
      case first =>
        by_cases h0 : kd = 0
        · subst h0
          obtain ⟨Z, hZ⟩ : ∃ Z, Z = wrC L (ky, yv, false) := ⟨_, rfl⟩
          have CT1 : Hid (∀ W, Hid (PY w1 W b s mb b C C (300 + k) tb wb at1 L k rb L ob #[.int .i64 0, str ky, str yv, str hi]) → Calls Try.prog 14 #[.pointer (some ⟨tb, 0, none⟩), str ky, str yv] W fun e W' => e = .returned (.int .i64 Z) ∧ Hid (PY w1 W' b s mb b C C (300 + k) tb wb at1 (wrL L (ky, yv, false)) (k + 1) rb L ob #[.int .i64 0, str ky, str yv, str hi])) := Lib.hid (fun W h => (pyPut h.out (by omega) ky yv z2 z3).mono (fun e W' g => ⟨by rw [hZ]; exact g.1, Lib.hid g.2⟩))
          have CT2 : Hid (∀ W, Hid (PY w1 W b s mb b C C (300 + k) tb wb at1 (wrL L (ky, yv, false)) (k + 1) rb L ob #[.int .i64 0, str ky, str yv, str hi]) → Calls Try.prog 15 #[.pointer (some ⟨rb, 0, none⟩), str ky, str yv] W fun e W' => e = .returned (.int .i64 Z) ∧ Hid (PY w1 W' b s mb b C C (300 + k) tb wb at1 (wrL L (ky, yv, false)) (k + 1) rb (wrL L (ky, yv, false)) ob #[.int .i64 0, str ky, str yv, str hi])) := Lib.hid (fun W h => (pyRPut h.out ky yv z2 z3).mono (fun e W' g => ⟨by rw [hZ]; exact g.1, Lib.hid g.2⟩))
          have nz : (Z == Z) = true := beq_self_eq_true Z
          have HP : Hid (PY w1 w4.drew b s mb b C C (300 + k) tb wb at1 L k rb L ob #[.int .i64 0, str ky, str yv, str hi]) := Lib.hid (HX4.out.below (Below.drewsN (Below.refl _ _) 1))
          clear hZ HX4
          go_wp2_with fail
          go_region_held3 (fun w' => w'.cell? ⟨ob, 1, none⟩ = some (str ky) ∧ w'.cell? ⟨ob, 2, none⟩ = some (str yv))
            (first
              | (exact ⟨HP.out.cell 1, HP.out.cell 2⟩)
              | go_keep)
            ((first
              | (go_at_call 14; refine (CT1.out _ HP).mono ?_; rintro e w5 ⟨rfl, HP⟩)
              | (go_at_call 15; refine (CT2.out _ HP).mono ?_; rintro e w5 ⟨rfl, HP⟩)
              | fail))
          all_goals
            go_wp2_with fail
            go_meet
            case rel => exact ⟨C, _, rfl, Lib.hid ⟨HP.out.z.wide (by omega) (Nat.le_refl _), HOK.out⟩⟩
        have k0 : (kd == 0) = false := beq_eq_false_iff_ne.2 h0
        by_cases h1 : kd = 1
        · subst h1
          obtain ⟨Z, hZ⟩ : ∃ Z, Z = wrC L (ky, [], true) := ⟨_, rfl⟩
          have CT1 : Hid (∀ W, Hid (PY w1 W b s mb b C C (300 + k) tb wb at1 L k rb L ob #[.int .i64 1, str ky, str yv, str hi]) → Calls Try.prog 16 #[.pointer (some ⟨tb, 0, none⟩), str ky] W fun e W' => e = .returned (.int .i64 Z) ∧ Hid (PY w1 W' b s mb b C C (300 + k) tb wb at1 (wrL L (ky, [], true)) (k + 1) rb L ob #[.int .i64 1, str ky, str yv, str hi])) := Lib.hid (fun W h => (pyDelete h.out (by omega) ky z2).mono (fun e W' g => ⟨by rw [hZ]; exact g.1, Lib.hid g.2⟩))
          have CT2 : Hid (∀ W, Hid (PY w1 W b s mb b C C (300 + k) tb wb at1 (wrL L (ky, [], true)) (k + 1) rb L ob #[.int .i64 1, str ky, str yv, str hi]) → Calls Try.prog 17 #[.pointer (some ⟨rb, 0, none⟩), str ky] W fun e W' => e = .returned (.int .i64 Z) ∧ Hid (PY w1 W' b s mb b C C (300 + k) tb wb at1 (wrL L (ky, [], true)) (k + 1) rb (wrL L (ky, [], true)) ob #[.int .i64 1, str ky, str yv, str hi])) := Lib.hid (fun W h => (pyRDelete h.out ky z2).mono (fun e W' g => ⟨by rw [hZ]; exact g.1, Lib.hid g.2⟩))
          have nz : (Z == Z) = true := beq_self_eq_true Z
          have HP : Hid (PY w1 w4.drew b s mb b C C (300 + k) tb wb at1 L k rb L ob #[.int .i64 1, str ky, str yv, str hi]) := Lib.hid (HX4.out.below (Below.drewsN (Below.refl _ _) 1))
          clear hZ HX4
          go_wp2_with fail
          go_region_held3 (fun w' => w'.cell? ⟨ob, 1, none⟩ = some (str ky))
            (first
              | (exact HP.out.cell 1)
              | go_keep)
            ((first
              | (go_at_call 16; refine (CT1.out _ HP).mono ?_; rintro e w5 ⟨rfl, HP⟩)
              | (go_at_call 17; refine (CT2.out _ HP).mono ?_; rintro e w5 ⟨rfl, HP⟩)
              | fail))
          all_goals
            go_wp2_with fail
            go_meet
            case rel => exact ⟨C, _, rfl, Lib.hid ⟨HP.out.z.wide (by omega) (Nat.le_refl _), HOK.out⟩⟩
        have k1 : (kd == 1) = false := beq_eq_false_iff_ne.2 h1
        by_cases h2 : kd = 2
        · subst h2
          obtain ⟨gx, gy, hgx⟩ := txG_form L ky (seenVS (verC ky C) at1)
          have CT := Lib.hid (ttGet HX4.out.z.tt (by omega) ky)
          rw [hgx] at CT
          have CU : Hid (∀ W, Hid (PY w1 W b s mb b C C (300 + k) tb wb at1 L k rb L ob #[.int .i64 2, str ky, str yv, str hi]) → Calls Try.prog 19 #[.pointer (some ⟨rb, 0, none⟩), str ky] W fun e W' => e = .returned (.tuple #[str gx, .bool gy]) ∧ Below W.heap.size W W') := Lib.hid (fun W h => by rw [← hgx]; exact pzGet h.out.z (by omega) HOK.out ky)
          have q1 : w4.cell? ⟨ob, 1, none⟩ = some (str ky) := HX4.out.cell 1
          have n1 : (gx == gx) = true := beq_self_eq_true gx
          have n2 : (gy == gy) = true := beq_self_eq_true gy
          clear hgx
          go_wp2_with fail
          refine CT.out.mono ?_
          rintro e w5 ⟨rfl, hb5⟩
          have HP := Lib.hid (HX4.out.below hb5)
          have p1 : w5.cell? ⟨ob, 1, none⟩ = some (str ky) := HP.out.cell 1
          clear hb5 CT HX4 q0 q1
          go_wp2_with fail
          refine (CU.out _ HP).mono ?_
          rintro e w6' ⟨rfl, hb6⟩
          have HP2 := Lib.hid (HP.out.below hb6)
          clear hb6 CU HP p1
          go_wp2_with fail
          all_goals
            go_meet
            case rel => exact ⟨C, L, by simp, Lib.hid ⟨HP2.out.z.wide (by omega) (Nat.le_succ k), HOK.out⟩⟩
        have k2 : (kd == 2) = false := beq_eq_false_iff_ne.2 h2
        by_cases h3 : kd = 3
        · subst h3
          have CT1 : Hid (∀ W, Hid (PY w1 W b s mb b C C (300 + k) tb wb at1 L k rb L ob #[.int .i64 3, str ky, str yv, str hi]) → Calls Try.prog 22 #[.pointer (some ⟨tb, 0, none⟩), str ky] W fun e W' => ∃ b1, e = .returned (.func (.func 49) #[] #[.pointer (some ⟨b1, 0, none⟩), .pointer (some ⟨b1 + 1, 0, none⟩), .pointer (some ⟨b1 + 2, 0, none⟩)]) ∧ Hid ((PY w1 W' b s mb b C C (300 + k) tb wb at1 L k rb L ob #[.int .i64 3, str ky, str yv, str hi]) ∧ TxL W' b1 (b1 + 1) (b1 + 2) tb ky (behP ky))) := Lib.hid (fun W h => (ttPrefix h.out.z.tt ky z2).mono (by rintro e W' ⟨b1, rfl, g1, g2⟩; exact ⟨b1, rfl, Lib.hid ⟨h.out.below g2, g1⟩⟩))
          have CT2 : Hid (∀ W b1, Hid ((PY w1 W b s mb b C C (300 + k) tb wb at1 L k rb L ob #[.int .i64 3, str ky, str yv, str hi]) ∧ TxL W b1 (b1 + 1) (b1 + 2) tb ky (behP ky)) → Calls Try.prog 21 #[.func (.func 49) #[] #[.pointer (some ⟨b1, 0, none⟩), .pointer (some ⟨b1 + 1, 0, none⟩), .pointer (some ⟨b1 + 2, 0, none⟩)], .int .i64 1048576] W fun e W' => ∃ v, e = .returned v ∧ Hid ((PY w1 W' b s mb b C C (300 + k) tb wb at1 L k rb L ob #[.int .i64 3, str ky, str yv, str hi]) ∧ RdP W' v (sawR ky (behP ky) at1 C L))) := Lib.hid (fun W b1 h => (pyScanT h.out.1.z (by omega) (by omega) h.out.2).mono (by rintro e W' ⟨v, rfl, g1, g2⟩; exact ⟨v, rfl, Lib.hid ⟨h.out.1.below g2, rdp_ownY g1⟩⟩))
          have CT3 : Hid (∀ W v, Hid ((PY w1 W b s mb b C C (300 + k) tb wb at1 L k rb L ob #[.int .i64 3, str ky, str yv, str hi]) ∧ RdP W v (sawR ky (behP ky) at1 C L)) → Calls Try.prog 23 #[.pointer (some ⟨rb, 0, none⟩), str ky] W fun e W' => ∃ v2, e = .returned v2 ∧ Hid ((PY w1 W' b s mb b C C (300 + k) tb wb at1 L k rb L ob #[.int .i64 3, str ky, str yv, str hi]) ∧ RdP W' v (sawR ky (behP ky) at1 C L) ∧ RdP W' v2 (sawR ky (behP ky) at1 C L))) := Lib.hid (fun W v h => (pzPrefix h.out.1.z (by omega) HOK.out ky z2).mono (by rintro e W' ⟨v2, rfl, g1, g2⟩; exact ⟨v2, rfl, Lib.hid ⟨h.out.1.below g2, RdF.below h.out.2 g2 (Nat.le_refl _), rdp_ownY g1⟩⟩))
          have CT4 : Hid (∀ W v v2, Hid ((PY w1 W b s mb b C C (300 + k) tb wb at1 L k rb L ob #[.int .i64 3, str ky, str yv, str hi]) ∧ RdP W v (sawR ky (behP ky) at1 C L) ∧ RdP W v2 (sawR ky (behP ky) at1 C L)) → Calls Try.prog 20 #[v, v2] W fun e W' => e = .returned (.bool true) ∧ Hid (PY w1 W' b s mb b C C (300 + k) tb wb at1 L k rb L ob #[.int .i64 3, str ky, str yv, str hi])) := Lib.hid (fun W v v2 h => (alikePairs_any v v2 _ W h.out.2.1 h.out.2.2).mono (fun e W' g => ⟨g.1, Lib.hid (h.out.1.below g.2)⟩))
          have HP : Hid (PY w1 w4.drew b s mb b C C (300 + k) tb wb at1 L k rb L ob #[.int .i64 3, str ky, str yv, str hi]) := Lib.hid (HX4.out.below (Below.drewsN (Below.refl _ _) 1))
          clear HX4
          go_wp2_with fail
          go_region_held3 (fun w' => w'.cell? ⟨ob, 1, none⟩ = some (str ky))
            (first
              | (exact HP.out.cell 1)
              | (exact HQ.out.1.cell 1)
              | go_keep)
            ((first
              | (go_at_call 22; refine (CT1.out _ HP).mono ?_; clear HP; rintro e w5 ⟨b1, rfl, HQ⟩)
              | (go_at_call 21; refine (CT2.out _ _ HQ).mono ?_; clear HQ; rintro e w5 ⟨v1, rfl, HQ⟩)
              | (go_at_call 23; refine (CT3.out _ _ HQ).mono ?_; clear HQ; rintro e w5 ⟨v2, rfl, HQ⟩)
              | (go_at_call 20; refine (CT4.out _ _ _ HQ).mono ?_; clear HQ; rintro e w5 ⟨rfl, HP⟩)
              | fail))
          all_goals
            go_wp2_with fail
            go_meet
            case rel => exact ⟨C, L, rfl, Lib.hid ⟨HP.out.z.wide (by omega) (Nat.le_succ k), HOK.out⟩⟩
        have k3 : (kd == 3) = false := beq_eq_false_iff_ne.2 h3
        by_cases h45 : kd = 4 ∨ kd = 5
        · obtain ⟨la, hla⟩ : ∃ la, la = lastTVS (verC ky C) := ⟨_, rfl⟩
          have CLa := Lib.hid (pzLast HX4.out.z (by omega) ky)
          rw [← hla] at CLa
          clear hla
          have hb1 : C.length ≤ 100000 := by have := HBN.out.1; omega
          have hb2 : totC C ≤ 100000 := by have := HBN.out.2.1; omega
          have q1 : w4.cell? ⟨ob, 1, none⟩ = some (str ky) := HX4.out.cell 1
          rcases h45 with rfl | rfl
          · go_wp2_with fail
            refine CLa.out.mono ?_
            rintro e w5 ⟨rfl, rfl⟩
            obtain ⟨M1, hM1⟩ : ∃ M1, M1 = (if la < at1 then at1 else la) := ⟨_, rfl⟩
            obtain ⟨M2, hM2⟩ : ∃ M2, M2 = (if M1 < 0 then 0 else M1) := ⟨_, rfl⟩
            obtain ⟨M3, hM3⟩ : ∃ M3, M3 = (if 549755813888 < M2 then 549755813888 else M2) := ⟨_, rfl⟩
            have hm2 : 0 ≤ M2 := by rw [hM2]; split <;> omega
            have hm3 : 0 ≤ M3 ∧ M3 ≤ 549755813888 := by rw [hM3]; split <;> omega
            have wA := hM1.symm
            have wB := hM2.symm
            have wD := hM3.symm
            have wC : IntKind.i64.wrap (M3 + 1) = M3 + 1 := IntWalk.i64_in _ ⟨by omega, by omega⟩
            clear hM1 hM2 hM3 CLa
            obtain ⟨Z, hZ⟩ : ∃ Z, Z = addCVS (verC ky C) 0 (M3 + 1, yv, false) := ⟨_, rfl⟩
            have CT1 : Hid (∀ W, Hid (PY w1 W b s mb b C C (300 + k) tb wb at1 L k rb L ob #[.int .i64 4, str ky, str yv, str hi]) → Calls Try.prog 25 #[.pointer (some ⟨s, 0, none⟩), .int .i64 (M3 + 1), str ky, str yv] W fun e W' => e = .returned (.int .i64 Z) ∧ Hid (PY w1 W' b s mb b (putC C 0 ky (M3 + 1, yv, false)) C (300 + k + 1) tb wb at1 L k rb L ob #[.int .i64 4, str ky, str yv, str hi])) := Lib.hid (fun W h => (pySPut h.out (by omega) ky (M3 + 1) yv).mono (fun e W' g => ⟨by rw [hZ]; exact g.1, Lib.hid g.2⟩))
            have CT2 : Hid (∀ W, Hid (PY w1 W b s mb b (putC C 0 ky (M3 + 1, yv, false)) C (300 + k + 1) tb wb at1 L k rb L ob #[.int .i64 4, str ky, str yv, str hi]) → Calls Try.prog 26 #[.pointer (some ⟨b, 0, none⟩), .int .i64 (M3 + 1), str ky, str yv] W fun e W' => e = .returned (.int .i64 Z) ∧ Hid (PY w1 W' b s mb b (putC C 0 ky (M3 + 1, yv, false)) (putC C 0 ky (M3 + 1, yv, false)) (300 + k + 1) tb wb at1 L k rb L ob #[.int .i64 4, str ky, str yv, str hi])) := Lib.hid (fun W h => (pyXPut h.out hb1 hb2 ky (M3 + 1) yv).mono (fun e W' g => ⟨by rw [hZ]; exact g.1, Lib.hid g.2⟩))
            have nz : (Z == Z) = true := beq_self_eq_true Z
            have HP : Hid (PY w1 w4.drew b s mb b C C (300 + k) tb wb at1 L k rb L ob #[.int .i64 4, str ky, str yv, str hi]) := Lib.hid (HX4.out.below (Below.drewsN (Below.refl _ _) 1))
            clear hZ HX4
            go_wp2_with fail
            go_region_held3 (fun w' => w'.cell? ⟨ob, 1, none⟩ = some (str ky) ∧ w'.cell? ⟨ob, 2, none⟩ = some (str yv))
              (first
                | (exact ⟨HP.out.cell 1, HP.out.cell 2⟩)
                | go_keep)
              ((first
                | (go_at_call 25; refine (CT1.out _ HP).mono ?_; rintro e w5 ⟨rfl, HP⟩)
                | (go_at_call 26; refine (CT2.out _ HP).mono ?_; rintro e w5 ⟨rfl, HP⟩)
                | fail))
            all_goals
              go_wp2_with fail
              go_meet
              case rel => exact ⟨_, L, rfl, Lib.hid ⟨HP.out.z.wide (by omega) (Nat.le_succ k), okC_put HOK.out 0 ky _ (fun e => by cases e)⟩⟩
          · go_wp2_with fail
            refine CLa.out.mono ?_
            rintro e w5 ⟨rfl, rfl⟩
            obtain ⟨M1, hM1⟩ : ∃ M1, M1 = (if la < at1 then at1 else la) := ⟨_, rfl⟩
            obtain ⟨M2, hM2⟩ : ∃ M2, M2 = (if M1 < 0 then 0 else M1) := ⟨_, rfl⟩
            obtain ⟨M3, hM3⟩ : ∃ M3, M3 = (if 549755813888 < M2 then 549755813888 else M2) := ⟨_, rfl⟩
            have hm2 : 0 ≤ M2 := by rw [hM2]; split <;> omega
            have hm3 : 0 ≤ M3 ∧ M3 ≤ 549755813888 := by rw [hM3]; split <;> omega
            have wA := hM1.symm
            have wB := hM2.symm
            have wD := hM3.symm
            have wC : IntKind.i64.wrap (M3 + 1) = M3 + 1 := IntWalk.i64_in _ ⟨by omega, by omega⟩
            clear hM1 hM2 hM3 CLa
            obtain ⟨Z, hZ⟩ : ∃ Z, Z = addCVS (verC ky C) 0 (M3 + 1, [], true) := ⟨_, rfl⟩
            have CT1 : Hid (∀ W, Hid (PY w1 W b s mb b C C (300 + k) tb wb at1 L k rb L ob #[.int .i64 5, str ky, str yv, str hi]) → Calls Try.prog 27 #[.pointer (some ⟨s, 0, none⟩), .int .i64 (M3 + 1), str ky] W fun e W' => e = .returned (.int .i64 Z) ∧ Hid (PY w1 W' b s mb b (putC C 0 ky (M3 + 1, [], true)) C (300 + k + 1) tb wb at1 L k rb L ob #[.int .i64 5, str ky, str yv, str hi])) := Lib.hid (fun W h => (pySKill h.out (by omega) ky (M3 + 1)).mono (fun e W' g => ⟨by rw [hZ]; exact g.1, Lib.hid g.2⟩))
            have CT2 : Hid (∀ W, Hid (PY w1 W b s mb b (putC C 0 ky (M3 + 1, [], true)) C (300 + k + 1) tb wb at1 L k rb L ob #[.int .i64 5, str ky, str yv, str hi]) → Calls Try.prog 28 #[.pointer (some ⟨b, 0, none⟩), .int .i64 (M3 + 1), str ky] W fun e W' => e = .returned (.int .i64 Z) ∧ Hid (PY w1 W' b s mb b (putC C 0 ky (M3 + 1, [], true)) (putC C 0 ky (M3 + 1, [], true)) (300 + k + 1) tb wb at1 L k rb L ob #[.int .i64 5, str ky, str yv, str hi])) := Lib.hid (fun W h => (pyXKill h.out hb1 hb2 ky (M3 + 1)).mono (fun e W' g => ⟨by rw [hZ]; exact g.1, Lib.hid g.2⟩))
            have nz : (Z == Z) = true := beq_self_eq_true Z
            have HP : Hid (PY w1 w4.drew b s mb b C C (300 + k) tb wb at1 L k rb L ob #[.int .i64 5, str ky, str yv, str hi]) := Lib.hid (HX4.out.below (Below.drewsN (Below.refl _ _) 1))
            clear hZ HX4
            go_wp2_with fail
            go_region_held3 (fun w' => w'.cell? ⟨ob, 1, none⟩ = some (str ky))
              (first
                | (exact HP.out.cell 1)
                | go_keep)
              ((first
                | (go_at_call 27; refine (CT1.out _ HP).mono ?_; rintro e w5 ⟨rfl, HP⟩)
                | (go_at_call 28; refine (CT2.out _ HP).mono ?_; rintro e w5 ⟨rfl, HP⟩)
                | fail))
            all_goals
              go_wp2_with fail
              go_meet
              case rel => exact ⟨_, L, rfl, Lib.hid ⟨HP.out.z.wide (by omega) (Nat.le_succ k), okC_put HOK.out 0 ky _ (fun _ => rfl)⟩⟩
        have k4 : (kd == 4) = false := beq_eq_false_iff_ne.2 (fun e => h45 (.inl e))
        have k5 : (kd == 5) = false := beq_eq_false_iff_ne.2 (fun e => h45 (.inr e))
        clear h0 h1 h2 h3 h45
        have CT1 : Hid (∀ W, Hid (PY w1 W b s mb b C C (300 + k) tb wb at1 L k rb L ob #[.int .i64 kd, str ky, str yv, str hi]) → Calls Try.prog 29 #[.pointer (some ⟨tb, 0, none⟩), str ky, str hi] W fun e W' => ∃ b1, e = .returned (.func (.func 49) #[] #[.pointer (some ⟨b1, 0, none⟩), .pointer (some ⟨b1 + 1, 0, none⟩), .pointer (some ⟨b1 + 2, 0, none⟩)]) ∧ Hid ((PY w1 W' b s mb b C C (300 + k) tb wb at1 L k rb L ob #[.int .i64 kd, str ky, str yv, str hi]) ∧ TxL W' b1 (b1 + 1) (b1 + 2) tb ky hi)) := Lib.hid (fun W h => (ttScanR h.out.z.tt ky hi).mono (by rintro e W' ⟨b1, rfl, g1, g2⟩; exact ⟨b1, rfl, Lib.hid ⟨h.out.below g2, g1⟩⟩))
        have CT2 : Hid (∀ W b1, Hid ((PY w1 W b s mb b C C (300 + k) tb wb at1 L k rb L ob #[.int .i64 kd, str ky, str yv, str hi]) ∧ TxL W b1 (b1 + 1) (b1 + 2) tb ky hi) → Calls Try.prog 21 #[.func (.func 49) #[] #[.pointer (some ⟨b1, 0, none⟩), .pointer (some ⟨b1 + 1, 0, none⟩), .pointer (some ⟨b1 + 2, 0, none⟩)], .int .i64 1048576] W fun e W' => ∃ v, e = .returned v ∧ Hid ((PY w1 W' b s mb b C C (300 + k) tb wb at1 L k rb L ob #[.int .i64 kd, str ky, str yv, str hi]) ∧ RdP W' v (sawR ky hi at1 C L))) := Lib.hid (fun W b1 h => (pyScanT h.out.1.z (by omega) (by omega) h.out.2).mono (by rintro e W' ⟨v, rfl, g1, g2⟩; exact ⟨v, rfl, Lib.hid ⟨h.out.1.below g2, rdp_ownY g1⟩⟩))
        have CT3 : Hid (∀ W v, Hid ((PY w1 W b s mb b C C (300 + k) tb wb at1 L k rb L ob #[.int .i64 kd, str ky, str yv, str hi]) ∧ RdP W v (sawR ky hi at1 C L)) → Calls Try.prog 30 #[.pointer (some ⟨rb, 0, none⟩), str ky, str hi] W fun e W' => ∃ v2, e = .returned v2 ∧ Hid ((PY w1 W' b s mb b C C (300 + k) tb wb at1 L k rb L ob #[.int .i64 kd, str ky, str yv, str hi]) ∧ RdP W' v (sawR ky hi at1 C L) ∧ RdP W' v2 (sawR ky hi at1 C L))) := Lib.hid (fun W v h => (pzScan h.out.1.z (by omega) HOK.out ky hi).mono (by rintro e W' ⟨v2, rfl, g1, g2⟩; exact ⟨v2, rfl, Lib.hid ⟨h.out.1.below g2, RdF.below h.out.2 g2 (Nat.le_refl _), rdp_ownY g1⟩⟩))
        have CT4 : Hid (∀ W v v2, Hid ((PY w1 W b s mb b C C (300 + k) tb wb at1 L k rb L ob #[.int .i64 kd, str ky, str yv, str hi]) ∧ RdP W v (sawR ky hi at1 C L) ∧ RdP W v2 (sawR ky hi at1 C L)) → Calls Try.prog 20 #[v, v2] W fun e W' => e = .returned (.bool true) ∧ Hid (PY w1 W' b s mb b C C (300 + k) tb wb at1 L k rb L ob #[.int .i64 kd, str ky, str yv, str hi])) := Lib.hid (fun W v v2 h => (alikePairs_any v v2 _ W h.out.2.1 h.out.2.2).mono (fun e W' g => ⟨g.1, Lib.hid (h.out.1.below g.2)⟩))
        have HP : Hid (PY w1 w4.drew b s mb b C C (300 + k) tb wb at1 L k rb L ob #[.int .i64 kd, str ky, str yv, str hi]) := Lib.hid (HX4.out.below (Below.drewsN (Below.refl _ _) 1))
        clear HX4
        go_wp2_with fail
        go_region_held3 (fun w' => w'.cell? ⟨ob, 1, none⟩ = some (str ky) ∧ w'.cell? ⟨ob, 3, none⟩ = some (str hi))
          (first
            | (exact ⟨HP.out.cell 1, HP.out.cell 3⟩)
            | (exact ⟨HQ.out.1.cell 1, HQ.out.1.cell 3⟩)
            | go_keep)
          ((first
            | (go_at_call 29; refine (CT1.out _ HP).mono ?_; clear HP; rintro e w5 ⟨b1, rfl, HQ⟩)
            | (go_at_call 21; refine (CT2.out _ _ HQ).mono ?_; clear HQ; rintro e w5 ⟨v1, rfl, HQ⟩)
            | (go_at_call 30; refine (CT3.out _ _ HQ).mono ?_; clear HQ; rintro e w5 ⟨v2, rfl, HQ⟩)
            | (go_at_call 20; refine (CT4.out _ _ _ HQ).mono ?_; clear HQ; rintro e w5 ⟨rfl, HP⟩)
            | fail))
        all_goals
          go_wp2_with fail
          go_meet
          case rel => exact ⟨C, L, rfl, Lib.hid ⟨HP.out.z.wide (by omega) (Nat.le_succ k), HOK.out⟩⟩
      case rest =>
        obtain ⟨C', L', rfl, HH⟩ := hcut
        clear HX4 HOK HBN q0
        by_cases h60 : k < 60
        · have e6 : decide ((k : Int) < 60) = true := decide_eq_true (by omega)
          have e6' : (k : Int) < 60 := by omega
          have CC := Lib.hid (ttClash HH.out.1.tt (by omega))
          unfold ClR at CC
          have CR : Hid (∀ W, Hid (PI w1 W s mb b tb wb rb at1 C' L' (k + 1)) → Calls Try.prog 32 #[.pointer (some ⟨rb, 0, none⟩)] W fun e W' => e = .returned (.bool (L'.any (fun x => decide (at1 < lastTVS (verC x.1 C'))))) ∧ Below W.heap.size W W') := Lib.hid (fun W h => pzClash h.out.1 (by omega))
          obtain ⟨cl, hcl⟩ : ∃ cl, cl = L'.any (fun x => decide (at1 < lastTVS (verC x.1 C'))) := ⟨_, rfl⟩
          rw [← hcl] at CC CR
          have ncl : (cl != cl) = false := bne_self_eq_false _
          clear hcl
          go_wp2_with fail
          refine CC.out.mono ?_
          rintro e w8 ⟨rfl, hb8⟩
          have H8 := Lib.hid (HH.out.below hb8)
          clear hb8 CC
          go_wp2_with fail
          refine (CR.out _ H8).mono ?_
          rintro e w9 ⟨rfl, hb9⟩
          have H9 := Lib.hid (H8.out.below hb9)
          clear hb9 CR H8
          go_wp2_with fail
          go_roundw
          case rel => exact ⟨k + 1, C', L', by omega, by go_num, H9⟩
          case measure => simp [intOf]; omega
        · have e6 : decide ((k : Int) < 60) = false := decide_eq_false (by omega)
          have e6' : ¬ (k : Int) < 60 := by omega
          go_wp2_with fail
          go_roundw
          case rel => exact ⟨k + 1, C', L', by omega, by go_num, HH⟩
          case measure => simp [intOf]; omega
    · obtain rfl : k = A.length := by omega
      have g3 : decide ((A.length : Int) < (A.length : Int)) = false := decide_eq_false (by omega)
      have g3' : ¬ (A.length : Int) < (A.length : Int) := by omega
      have HLN : Hid (L.length ≤ 1000) := Lib.hid HG.out.1.bnd.2.2.2.2.2
      obtain ⟨w0, hw0⟩ : ∃ w, w = wr := ⟨_, rfl⟩
      subst hw0
      obtain ⟨R, hR⟩ : ∃ R, R = L.map Prod.snd := ⟨_, rfl⟩
      have hR1 : R.length ≤ 1000 := by rw [hR, List.length_map]; exact HLN.out
      have CW : Hid (∀ W, Hid (PI w1 W s mb b tb wb rb at1 C L A.length) → Calls Try.prog 33 #[.pointer (some ⟨tb, 0, none⟩)] W (WrsP W R)) := Lib.hid (fun W h => by rw [hR]; exact txWrites h.out.1.tt.tx (by omega))
      have CW2 : Hid (∀ W, Hid (PI w1 W s mb b tb wb rb at1 C L A.length) → Calls Try.prog 35 #[.pointer (some ⟨rb, 0, none⟩)] W fun e W' => ∃ v, e = .returned v ∧ RdW W' v R ∧ Below W.heap.size W W') := Lib.hid (fun W h => by rw [hR]; exact pzWrites h.out.1)
      clear hR HLN
      go_wp2_with fail
      refine (CW.out _ HG).mono ?_
      rintro e w8 ⟨vw, rfl, hrw, hb8⟩
      have HL8 : Hid (w8.ownsRow w0.heap.size 58 3 vw R.length (R.map cellsWr).flatten ∧ Below w0.heap.size w0 w8) := Lib.hid ⟨hrw, hb8⟩
      have H8 := Lib.hid (HG.out.below hb8)
      clear hrw hb8
      go_wp2_with fail
      refine (CW2.out _ H8).mono ?_
      rintro e w9 ⟨vu, rfl, hru, hb9⟩
      have HL9 : Hid (w9.ownsRow w0.heap.size 58 3 vw R.length (R.map cellsWr).flatten ∧ Below w0.heap.size w0 w9) := Lib.hid ⟨owns_below HL8.out.1 hb9 (Nat.le_refl _), HL8.out.2.trans (hb9.mono HL8.out.2.size)⟩
      have CAL := Lib.hid (alikeWrites_any vw vu R w9 (rdw_ownY HL9.out.1) hru)
      clear hru hb9 HL8 H8
      go_wp2_with fail
      refine CAL.out.mono ?_
      rintro e wA ⟨rfl, hbA⟩
      obtain ⟨a, c, rfl, -⟩ := rdW_form (rdw_ownY HL9.out.1)
      have HS : Hid (SpL w0 wA a R.length c) := Lib.hid ⟨⟨_, owns_below HL9.out.1 hbA (Nat.le_refl _)⟩, HL9.out.2.trans (hbA.mono HL9.out.2.size)⟩
      clear hbA HL9 CAL
      go_wp2_with fail
      go_loopw [21] (fun i wr2 => ∃ (j : Nat), j ≤ R.length ∧ i = .int .i64 (j : Int) ∧ Hid (SpL w0 wr2 a R.length c)) (fun i _ => R.length - (intOf i).toNat)
      case atStart => exact ⟨0, Nat.zero_le _, rfl, HS⟩
      case round =>
        clear HS
        obtain ⟨j, hj, rfl, HS⟩ := hrel
        by_cases hlt2 : j < R.length
        · have g5 : decide ((j : Int) < (R.length : Int)) = true := decide_eq_true (by omega)
          have g5' : (j : Int) < (R.length : Int) := by omega
          have g6 : (0 : Int) ≤ (j : Int) := by omega
          obtain ⟨g, rfl, ⟨x, c0⟩, f0, HN⟩ := HS.out.at hlt2
          clear HS HG CW CW2
          go_wp2_with fail
          go_roundw
          case rel => exact ⟨j + 1, by omega, by go_num, Lib.hid (HN.out _)⟩
          case measure => simp [intOf]; omega
        · obtain rfl : j = R.length := by omega
          have g5 : decide ((R.length : Int) < (R.length : Int)) = false := decide_eq_false (by omega)
          have g5' : ¬ (R.length : Int) < (R.length : Int) := by omega
          have HZ := Lib.hid (HG.out.below HS.out.2)
          clear HG HS
          go_wp2_with fail
          refine (CF.out _).mono ?_
          rintro e wB ⟨rfl, hbB⟩
          have HB := Lib.hid (HZ.out.below hbB)
          clear hbB HZ
          go_wp2_with fail
          refine (CW.out _ HB).mono ?_
          rintro e wC ⟨vw2, rfl, hrw, hbC⟩
          have HRC : Hid (RdW wC vw2 R) := Lib.hid (rdw_ownY hrw)
          have HC := Lib.hid (HB.out.below hbC)
          clear hrw hbC HB
          go_wp2_with fail
          refine (CW2.out _ HC).mono ?_
          rintro e wD ⟨vu2, rfl, hru, hbD⟩
          have CAL := Lib.hid (alikeWrites_any vw2 vu2 R wD (RdF.below HRC.out hbD (Nat.le_refl _)) hru)
          have HD := Lib.hid (HC.out.below hbD)
          clear hru hbD HC HRC CW CW2
          go_wp2_with fail
          refine CAL.out.mono ?_
          rintro e wE ⟨rfl, hbE⟩
          have HE := Lib.hid (HD.out.below hbE)
          clear CAL hbE HD
          have CC := Lib.hid (ttClash HE.out.1.tt (by omega))
          unfold ClR at CC
          have CR : Hid (∀ W, Hid (PI w1 W s mb b tb wb rb at1 C L A.length) → Calls Try.prog 32 #[.pointer (some ⟨rb, 0, none⟩)] W fun e W' => e = .returned (.bool (L.any (fun x => decide (at1 < lastTVS (verC x.1 C))))) ∧ Below W.heap.size W W') := Lib.hid (fun W h => pzClash h.out.1 (by omega))
          obtain ⟨cl, hcl⟩ : ∃ cl, cl = L.any (fun x => decide (at1 < lastTVS (verC x.1 C))) := ⟨_, rfl⟩
          rw [← hcl] at CC CR
          have ncl : (cl == cl) = true := beq_self_eq_true _
          clear hcl
          go_wp2_with fail
          refine CC.out.mono ?_
          rintro e wF ⟨rfl, hbF⟩
          have HF := Lib.hid (HE.out.below hbF)
          clear hbF CC HE
          go_wp2_with fail
          refine (CR.out _ HF).mono ?_
          rintro e wG ⟨rfl, hbG⟩
          have HGG := Lib.hid (HF.out.below hbG)
          clear hbG CR HF
          go_wp2_with fail
          refine (ttScanR HGG.out.1.tt [] []).mono ?_
          rintro e wH ⟨b1, rfl, hLH, hbH⟩
          have HH := Lib.hid (HGG.out.below hbH)
          have CP1 := Lib.hid (pyScanT HH.out.1 (by omega) (by omega) hLH)
          clear hLH hbH HGG
          go_wp2_with fail
          refine CP1.out.mono ?_
          rintro e wI ⟨v1, rfl, hrI, hbI⟩
          have HRI : Hid (RdP wI v1 (sawR [] [] at1 C L)) := Lib.hid (rdp_ownY hrI)
          have HI := Lib.hid (HH.out.below hbI)
          clear CP1 hrI hbI HH
          have CP2 := Lib.hid (pzScan HI.out.1 (by omega) HI.out.2 [] [])
          go_wp2_with fail
          refine CP2.out.mono ?_
          rintro e wJ ⟨v2, rfl, hrJ, hbJ⟩
          have CAP := Lib.hid (alikePairs_any v1 v2 (sawR [] [] at1 C L) wJ (RdF.below HRI.out hbJ (Nat.le_refl _)) (rdp_ownY hrJ))
          have HJ := Lib.hid (HI.out.below hbJ)
          clear CP2 hrJ hbJ HI HRI
          go_wp2_with fail
          refine CAP.out.mono ?_
          rintro e wK ⟨rfl, hbK⟩
          have HK := Lib.hid (H1.out.trans ((HJ.out.below hbK).1.bel.mono H1.out.size))
          clear CAP hbK HJ
          go_wp2_with fail
          go_ret
          exact ⟨rfl, HK.out⟩
end Go.Proofs.Ytcgjiddiegepkaa

/- TxnPlays in the claim's order. -/
namespace Go.Proofs.Ytcgjiddiegepkaa
open Go.RowKit
theorem plays12_main (vv : Value) (l : List Op11) (at1 : Int) (va : Value) (A : List Op12) (w : World) (hv : Rd11 w vv l) (hsv : ∀ o ∈ l, o.ok) (hat : -9223372036854775808 ≤ at1 ∧ at1 ≤ 9223372036854775807) (ha : Rd12 w va A) (hsa : ∀ o ∈ A, o.ok) :
    Calls Try.prog 3 #[vv, .int .i64 at1, va] w fun e w' => e = .returned (.bool true) ∧ Below w.heap.size w w' :=
  plays12_walk vv l at1 va A w hv hsv ha hsa hat
end Go.Proofs.Ytcgjiddiegepkaa
