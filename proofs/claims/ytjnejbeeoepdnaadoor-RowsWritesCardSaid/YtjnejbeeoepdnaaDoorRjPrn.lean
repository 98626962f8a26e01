/- hblref1.print1, Print: the document's texts of values. -/
import Derived.Test.YtjnejbeeoepdnaaDoorRjMay
import Derived.Test.YtjnejbeeoepdnaaDoorRQuo
import Derived.Test.YtjnejbeeoepdnaaDoorDecN
import Derived.Test.YtjnejbeeoepdnaaDoorJPrn
import Derived.Test.YtjnejbeeoepdnaaDoorJStr
import Derived.Deep.LoopGhost
namespace Go.Proofs.YtjnejbeeoepdnaaDoor
open Go.RowKit

theorem rquote_yes (s : List UInt8) (hv : txF s = true) (w : World) : Calls Tryd.prog 68 #[str s] w fun e w' => e = .returned (.tuple #[str (quo s), .int .i64 0]) ∧ Below w.heap.size w w' := by
  unfold txF at hv
  rw [Bool.and_eq_true] at hv
  have hl := of_decide_eq_true hv.1
  have hq : quoteE s = .returned (.tuple #[str (quo s), .int .i64 0]) := by rw [quoteE, hv.2]; rfl
  have := refQuote_any s w (by omega)
  rw [hq] at this
  exact this
/-- What stands in a value that may be. -/
theorem may_parts {v : JV} {d : Nat} (h : mayV v d = true) : (1 ≤ v.kind ∧ v.kind ≤ 7) ∧ (-9007199254740991 ≤ v.n ∧ v.n ≤ 9007199254740991) ∧ txF v.s = true ∧ mayL v.l (d - 1) = true ∧ mayM v.m none (d - 1) = true := by
  rw [mayV_mk] at h
  simp only [fitV, Bool.and_eq_true, decide_eq_true_eq] at h
  obtain ⟨⟨⟨⟨⟨_, h1⟩, h2⟩, h3⟩, h4⟩, h5⟩ := h
  exact ⟨⟨h1, h2⟩, ⟨h3.1.1.1.1.1.2, h3.1.1.1.1.2⟩, h3.1.1.2, h4, h5⟩
theorem pr_kind (v : JV) : prV v = if v.kind = 1 then [110, 117, 108, 108] else if v.kind = 2 then [102, 97, 108, 115, 101] else if v.kind = 3 then [116, 114, 117, 101] else if v.kind = 4 then Lib.itoa v.n else if v.kind = 5 then quo v.s else if v.kind = 6 then 91 :: (lsT v.l v.l.length ++ [93]) else 123 :: (obT v.m v.m.length ++ [125]) := by
  obtain ⟨k, n, s, l, m⟩ := v
  rw [lsT_all, obT_all, prV]
  rfl
theorem prT_mem {l : List JV} {x : JV} (h : x ∈ l) : (prV x).length ≤ ((prT l).drop 1).length := by
  induction l with
  | nil => cases h
  | cons y t ih =>
    rw [prT]
    rcases List.mem_cons.1 h with rfl | h
    · simp
    · have := ih h
      simp at this ⊢
      omega
theorem prU_mem {m : List MemT} {x : MemT} (h : x ∈ m) : (quo x.1).length + (prV x.2).length ≤ ((prU m).drop 1).length := by
  induction m with
  | nil => cases h
  | cons y t ih =>
    obtain ⟨a, b⟩ := y
    rw [prU]
    rcases List.mem_cons.1 h with rfl | h
    · simp; omega
    · have := ih h
      simp at this ⊢
      omega
/-- What print1 tells of a value that may be. -/
def RPrnC (v : JV) : Prop := ∀ (d : Nat), mayV v d = true → (prV v).length ≤ 1000000000 → ∀ (F : Nat → Prop) (w : World) (cs : List Value), RdJ w F v cs →
  Calls Tryd.prog 49 #[.agg cs.toArray] w fun e w' => e = .returned (str (prV v)) ∧ Below w.heap.size w w'
attribute [local go_sem] str_cat
set_option maxRecDepth 100000 in
set_option maxHeartbeats 32000000 in
theorem rjprn_step (v : JV) (IHL : ∀ x ∈ v.l, RPrnC x) (IHM : ∀ x ∈ v.m, RPrnC x.2) : RPrnC v := by
  intro d hm hlen F w cs h
  have HM := Lib.hid (may_parts hm)
  obtain ⟨al, ll, cl, am, lm, cm, rfl, ⟨rl, hrl, hll, rfl⟩, rm, hrm, hmm, rfl⟩ := h.open
  have g0 : v.l.length ≤ 9223372036854775807 := (hrl.lens).2.1
  have g1 : v.m.length ≤ 9223372036854775807 := (hrm.lens).2.1
  obtain ⟨W1, hW1⟩ : ∃ W1, W1 = w.alloc (.cells #[.int .i64 v.kind, .int .i64 v.n, str v.s, .slice al v.l.length cl, .slice am v.m.length cm] 63) := ⟨_, rfl⟩
  have hb1 : Below w.heap.size w W1 := by rw [hW1]; exact below_alloc _ _
  have hbx : W1.heap[w.heap.size]? = some (.cells #[.int .i64 v.kind, .int .i64 v.n, str v.s, .slice al v.l.length cl, .slice am v.m.length cm] 63 (0, 0)) := by rw [hW1]; exact heap_alloc_new _ _
  have HB := Lib.hid (And.intro hb1 hbx)
  have HL := Lib.hid (And.intro hrl (And.intro hll (And.intro hrm hmm)))
  have IL := Lib.hid IHL
  have IM := Lib.hid IHM
  have hkk : v.kind = 1 ∨ v.kind = 2 ∨ v.kind = 3 ∨ v.kind = 4 ∨ v.kind = 5 ∨ v.kind = 6 ∨ v.kind = 7 := by have := HM.out.1; omega
  clear IHL IHM hm hrl hll hrm hmm h hb1 hbx
  rcases hkk with hk | hk | hk | hk | hk | hk | hk
  · as_aux_lemma =>
    have y1 : (v.kind == 1) = true := by rw [hk]; rfl
    have HE : Hid (prV v = [110, 117, 108, 108]) := Lib.hid (by rw [pr_kind, hk]; rfl)
    clear hk IL IM HL HM
    go_enter Tryd.func49, Tryd.ntmps49
    go_upto_region 1 with fail
    rw [← hW1]
    clear hW1
    have p0 := box_cell HB.out.2 0
    go_wp2_with fail
    go_ret
    exact ⟨by rw [HE.out]; rfl, HB.out.1⟩
  · as_aux_lemma =>
    have y1 : (v.kind == 1) = false := by rw [hk]; rfl
    have y2 : (v.kind == 2) = true := by rw [hk]; rfl
    have HE : Hid (prV v = [102, 97, 108, 115, 101]) := Lib.hid (by rw [pr_kind, hk]; rfl)
    clear hk IL IM HL HM
    go_enter Tryd.func49, Tryd.ntmps49
    go_upto_region 1 with fail
    rw [← hW1]
    clear hW1
    have p0 := box_cell HB.out.2 0
    go_wp2_with fail
    go_ret
    exact ⟨by rw [HE.out]; rfl, HB.out.1⟩
  · as_aux_lemma =>
    have y1 : (v.kind == 1) = false := by rw [hk]; rfl
    have y2 : (v.kind == 2) = false := by rw [hk]; rfl
    have y3 : (v.kind == 3) = true := by rw [hk]; rfl
    have HE : Hid (prV v = [116, 114, 117, 101]) := Lib.hid (by rw [pr_kind, hk]; rfl)
    clear hk IL IM HL HM
    go_enter Tryd.func49, Tryd.ntmps49
    go_upto_region 1 with fail
    rw [← hW1]
    clear hW1
    have p0 := box_cell HB.out.2 0
    go_wp2_with fail
    go_ret
    exact ⟨by rw [HE.out]; rfl, HB.out.1⟩
  · as_aux_lemma =>
    have y1 : (v.kind == 1) = false := by rw [hk]; rfl
    have y2 : (v.kind == 2) = false := by rw [hk]; rfl
    have y3 : (v.kind == 3) = false := by rw [hk]; rfl
    have y4 : (v.kind == 4) = true := by rw [hk]; rfl
    have HE : Hid (prV v = Lib.itoa v.n) := Lib.hid (by rw [pr_kind, hk]; rfl)
    have CD := Lib.hid (fun W => decN_any v.n (by have := HM.out.2.1; omega) W)
    clear hk IL IM HL HM
    go_enter Tryd.func49, Tryd.ntmps49
    go_upto_region 1 with fail
    rw [← hW1]
    clear hW1
    have p0 := box_cell HB.out.2 0
    have p1 := box_cell HB.out.2 1
    go_wp2_with fail
    refine (CD.out _).mono ?_
    rintro e w2 ⟨rfl, hb2⟩
    have HX := Lib.hid (HB.out.1.trans (hb2.mono HB.out.1.size))
    clear hb2 CD p0 p1
    go_wp2_with fail
    go_ret
    exact ⟨by rw [HE.out]; rfl, HX.out⟩
  · as_aux_lemma =>
    have y1 : (v.kind == 1) = false := by rw [hk]; rfl
    have y2 : (v.kind == 2) = false := by rw [hk]; rfl
    have y3 : (v.kind == 3) = false := by rw [hk]; rfl
    have y4 : (v.kind == 4) = false := by rw [hk]; rfl
    have y5 : (v.kind == 5) = true := by rw [hk]; rfl
    have HE : Hid (prV v = quo v.s) := Lib.hid (by rw [pr_kind, hk]; rfl)
    have CD := Lib.hid (rquote_yes v.s HM.out.2.2.1)
    clear hk IL IM HL HM
    go_enter Tryd.func49, Tryd.ntmps49
    go_upto_region 1 with fail
    rw [← hW1]
    clear hW1
    have p0 := box_cell HB.out.2 0
    have p2 := box_cell HB.out.2 2
    go_wp2_with fail
    refine (CD.out _).mono ?_
    rintro e w2 ⟨rfl, hb2⟩
    have HX := Lib.hid (HB.out.1.trans (hb2.mono HB.out.1.size))
    clear hb2 CD p0 p2
    go_wp2_with fail
    go_ret
    exact ⟨by rw [HE.out]; rfl, HX.out⟩
  · as_aux_lemma =>
    have y1 : (v.kind == 1) = false := by rw [hk]; rfl
    have y2 : (v.kind == 2) = false := by rw [hk]; rfl
    have y3 : (v.kind == 3) = false := by rw [hk]; rfl
    have y4 : (v.kind == 4) = false := by rw [hk]; rfl
    have y5 : (v.kind == 5) = false := by rw [hk]; rfl
    have y6 : (v.kind == 6) = true := by rw [hk]; rfl
    have HE : Hid (prV v = 91 :: (lsT v.l v.l.length ++ [93])) := Lib.hid (by rw [pr_kind, hk]; rfl)
    have HLL : Hid (∀ k, k ≤ v.l.length → (lsT v.l k).length ≤ 1000000000) := Lib.hid (fun k hk' => by
      have h1 := lsT_le v.l hk'
      rw [HE.out] at hlen
      rw [← lsT_all] at h1
      simp at hlen
      omega)
    have IX : Hid (∀ x ∈ v.l, ∀ (F : Nat → Prop) (w : World) (cs : List Value), RdJ w F x cs → Calls Tryd.prog 49 #[.agg cs.toArray] w fun e w' => e = .returned (str (prV x)) ∧ Below w.heap.size w w') := Lib.hid (fun x hx F w cs h => IL.out x hx (d - 1) (mayL_mem HM.out.2.2.2.1 x hx) (by
      have h1 := prT_mem hx
      rw [HE.out] at hlen
      rw [← lsT_all] at h1
      simp at hlen
      omega) F w cs h)
    have HXL : Hid (∀ x ∈ v.l, (prV x).length ≤ 1000000000) := Lib.hid (fun x hx => by
      have h1 := prT_mem hx
      rw [HE.out] at hlen
      rw [← lsT_all] at h1
      simp at hlen
      omega)
    clear hk IL IM HM hlen
    go_enter Tryd.func49, Tryd.ntmps49
    go_upto_region 1 with fail
    rw [← hW1]
    clear hW1
    have p0 := box_cell HB.out.2 0
    go_wp2_with fail
    clear p0
    go_loopw [5, 6] (fun v5 v6 wr => ∃ (k : Nat) (A : List UInt8), k ≤ v.l.length ∧ v5 = str A ∧ v6 = .int .i64 (k : Int) ∧ Hid (A = 91 :: lsT v.l k) ∧ Hid (Below W1.heap.size W1 wr)) (fun _ v6 _ => v.l.length - (intOf v6).toNat)
    case atStart => exact ⟨0, [91], Nat.zero_le _, rfl, rfl, Lib.hid rfl, Lib.hid (Below.refl _ _)⟩
    case round =>
      obtain ⟨k, A, hk, rfl, rfl, HA, HW⟩ := hrel
      have HWW := Lib.hid (HB.out.1.trans (HW.out.mono HB.out.1.size))
      have b3 := box_cell (box_up HB.out.2 HW.out) 3
      have hAl : A.length ≤ 1000000001 := by have := HLL.out k hk; rw [HA.out]; simp; omega
      have l1 : ¬ 9223372036854775807 < A.length + 1 := by omega
      by_cases hlt : k < v.l.length
      · have n1 : (k : Int) < (v.l.length : Int) := by omega
        have n3 : (0 : Int) ≤ (k : Int) := by omega
        obtain ⟨b, off, a, n, c, a', n', c', rfl, _, hbw, hx, c0, c1, c2, c3, c4⟩ := RdJ.part HL.out.1 HL.out.2.1 hlt
        have HN : Hid (∀ h0 : k ≠ 0, lsT v.l (k + 1) = lsT v.l k ++ 44 :: prV v.l[k]) := Lib.hid (fun h0 => lsT_succ hlt h0)
        have HN0 : Hid (k = 0 → lsT v.l (k + 1) = prV v.l[k]) := Lib.hid (fun h0 => by subst h0; exact lsT_one hlt)
        have hxl := HXL.out _ (List.getElem_mem hlt)
        have CI := IX.out _ (List.getElem_mem hlt)
        obtain ⟨x, hxx⟩ : ∃ x, x = v.l[k] := ⟨_, rfl⟩
        rw [← hxx] at hx c0 c1 c2 HN HN0 hxl CI
        clear hxx
        have e0 : wr.cell? ⟨b, off + k * 5, none⟩ = some (.int .i64 x.kind) := (HWW.out.cell (p := ⟨b, off + k * 5, none⟩) hbw).trans c0
        have e1 : wr.cell? ⟨b, off + k * 5 + 1, none⟩ = some (.int .i64 x.n) := (HWW.out.cell (p := ⟨b, off + k * 5 + 1, none⟩) hbw).trans c1
        have e2 : wr.cell? ⟨b, off + k * 5 + 2, none⟩ = some (str x.s) := (HWW.out.cell (p := ⟨b, off + k * 5 + 2, none⟩) hbw).trans c2
        have e3 : wr.cell? ⟨b, off + k * 5 + 3, none⟩ = some (.slice a n c) := (HWW.out.cell (p := ⟨b, off + k * 5 + 3, none⟩) hbw).trans c3
        have e4 : wr.cell? ⟨b, off + k * 5 + 4, none⟩ = some (.slice a' n' c') := (HWW.out.cell (p := ⟨b, off + k * 5 + 4, none⟩) hbw).trans c4
        have CP := CI F wr _ (hx.up HWW.out)
        obtain ⟨X, hX⟩ : ∃ X, X = prV x := ⟨_, rfl⟩
        rw [← hX] at CP HN HN0 hxl
        have CP := Lib.hid CP
        clear hx c0 c1 c2 c3 c4 hbw hX CI
        have l2 : ¬ 9223372036854775807 < A.length + 1 + X.length := by omega
        have l3 : ¬ 9223372036854775807 < A.length + (1 + X.length) := by omega
        have l4 : ¬ 9223372036854775807 < A.length + X.length := by omega
        have l5 : ¬ 9223372036854775807 < A.length + (X.length + 1) := by omega
        clear hAl hxl
        by_cases h0 : k = 0
        · have y7 : decide ((0 : Int) < (k : Int)) = false := decide_eq_false (by omega)
          have y8 : decide (0 < k) = false := decide_eq_false (by omega)
          have y9 : ¬ 0 < k := by omega
          have y10 : ¬ (0 : Int) < (k : Int) := by omega
          have hz : lsT v.l k = [] := by rw [h0]; rfl
          have HQ : Hid (A ++ X = 91 :: lsT v.l (k + 1)) := Lib.hid (by rw [HA.out, HN0.out h0, hz]; simp)
          clear h0 HN HN0 hz
          go_wp2_with fail
          refine CP.out.mono ?_
          rintro e w2 ⟨rfl, hb2⟩
          have HX := Lib.hid (HW.out.trans (hb2.mono HW.out.size))
          clear hb2 CP
          go_wp2_with fail
          go_roundw
          case rel => exact ⟨k + 1, A ++ X, by omega, rfl, by go_num, HQ, HX⟩
          case measure => simp [intOf]; omega
        · have y7 : decide ((0 : Int) < (k : Int)) = true := decide_eq_true (by omega)
          have y8 : decide (0 < k) = true := decide_eq_true (by omega)
          have y9 : 0 < k := by omega
          have y10 : (0 : Int) < (k : Int) := by omega
          have HQ : Hid (A ++ 44 :: X = 91 :: lsT v.l (k + 1)) := Lib.hid (by rw [HA.out, HN.out h0]; simp)
          clear h0 HN HN0
          go_wp2_with fail
          refine CP.out.mono ?_
          rintro e w2 ⟨rfl, hb2⟩
          have HX := Lib.hid (HW.out.trans (hb2.mono HW.out.size))
          clear hb2 CP
          go_wp2_with fail
          go_roundw
          case rel => exact ⟨k + 1, A ++ 44 :: X, by omega, rfl, by go_num, HQ, HX⟩
          case measure => simp [intOf]; omega
      · obtain rfl : k = v.l.length := by omega
        have n2 : ¬ (v.l.length : Int) < (v.l.length : Int) := by omega
        clear hAl
        go_wp2_with fail
        go_ret
        exact ⟨by rw [HE.out, HA.out]; rfl, HWW.out⟩
  · as_aux_lemma =>
    have y6 : (v.kind == 6) = false := by rw [hk]; rfl
    have y1 : (v.kind == 1) = false := by rw [hk]; rfl
    have y2 : (v.kind == 2) = false := by rw [hk]; rfl
    have y3 : (v.kind == 3) = false := by rw [hk]; rfl
    have y4 : (v.kind == 4) = false := by rw [hk]; rfl
    have y5 : (v.kind == 5) = false := by rw [hk]; rfl
    have HE : Hid (prV v = 123 :: (obT v.m v.m.length ++ [125])) := Lib.hid (by rw [pr_kind, hk]; rfl)
    have HLL : Hid (∀ k, k ≤ v.m.length → (obT v.m k).length ≤ 1000000000) := Lib.hid (fun k hk' => by
      have h1 := obT_le v.m hk'
      rw [HE.out] at hlen
      rw [← obT_all] at h1
      simp at hlen
      omega)
    have HXL : Hid (∀ x ∈ v.m, (quo x.1).length + (prV x.2).length ≤ 1000000000) := Lib.hid (fun x hx => by
      have h1 := prU_mem hx
      rw [HE.out] at hlen
      rw [← obT_all] at h1
      simp at hlen
      omega)
    have IX : Hid (∀ x ∈ v.m, txF x.1 = true ∧ ∀ (F : Nat → Prop) (w : World) (cs : List Value), RdJ w F x.2 cs → Calls Tryd.prog 49 #[.agg cs.toArray] w fun e w' => e = .returned (str (prV x.2)) ∧ Below w.heap.size w w') := Lib.hid (fun x hx => ⟨(mayM_mem HM.out.2.2.2.2 x hx).1, fun F w cs h => IM.out x hx (d - 1) (mayM_mem HM.out.2.2.2.2 x hx).2 (by have := HXL.out x hx; omega) F w cs h⟩)
    clear hk IL IM HM hlen
    go_enter Tryd.func49, Tryd.ntmps49
    go_upto_region 1 with fail
    rw [← hW1]
    clear hW1
    have p0 := box_cell HB.out.2 0
    go_wp2_with fail
    clear p0
    go_loopw [7, 8] (fun v7 v8 wr => ∃ (k : Nat) (A : List UInt8), k ≤ v.m.length ∧ v7 = str A ∧ v8 = .int .i64 (k : Int) ∧ Hid (A = 123 :: obT v.m k) ∧ Hid (Below W1.heap.size W1 wr)) (fun _ v8 _ => v.m.length - (intOf v8).toNat)
    case atStart => exact ⟨0, [123], Nat.zero_le _, rfl, rfl, Lib.hid rfl, Lib.hid (Below.refl _ _)⟩
    case round =>
      obtain ⟨k, A, hk, rfl, rfl, HA, HW⟩ := hrel
      have HWW := Lib.hid (HB.out.1.trans (HW.out.mono HB.out.1.size))
      have b4 := box_cell (box_up HB.out.2 HW.out) 4
      have hAl : A.length ≤ 1000000001 := by have := HLL.out k hk; rw [HA.out]; simp; omega
      have l1 : ¬ 9223372036854775807 < A.length + 1 := by omega
      by_cases hlt : k < v.m.length
      · have n1 : (k : Int) < (v.m.length : Int) := by omega
        have n3 : (0 : Int) ≤ (k : Int) := by omega
        obtain ⟨b, off, a, n, c, a', n', c', rfl, _, hbw, hx, c0, c1, c2, c3, c4, c5⟩ := RdJ.memb HL.out.2.2.1 HL.out.2.2.2 hlt
        have HN : Hid (∀ h0 : k ≠ 0, obT v.m (k + 1) = obT v.m k ++ 44 :: (quo v.m[k].1 ++ 58 :: prV v.m[k].2)) := Lib.hid (fun h0 => obT_succ hlt h0)
        have HN0 : Hid (k = 0 → obT v.m (k + 1) = quo v.m[k].1 ++ 58 :: prV v.m[k].2) := Lib.hid (fun h0 => by subst h0; exact obT_one hlt)
        have hxl := HXL.out _ (List.getElem_mem hlt)
        have CI := IX.out _ (List.getElem_mem hlt)
        obtain ⟨x, hxx⟩ : ∃ x, x = v.m[k] := ⟨_, rfl⟩
        rw [← hxx] at hx c0 c1 c2 c3 HN HN0 hxl CI
        clear hxx
        obtain ⟨nm, x⟩ := x
        dsimp only at hx c0 c1 c2 c3 c4 c5 HN HN0 hxl CI
        have e0 : wr.cell? ⟨b, off + k * 6, none⟩ = some (str nm) := (HWW.out.cell (p := ⟨b, off + k * 6, none⟩) hbw).trans c0
        have e1 : wr.cell? ⟨b, off + k * 6 + 1, none⟩ = some (.int .i64 x.kind) := (HWW.out.cell (p := ⟨b, off + k * 6 + 1, none⟩) hbw).trans c1
        have e2 : wr.cell? ⟨b, off + k * 6 + 2, none⟩ = some (.int .i64 x.n) := (HWW.out.cell (p := ⟨b, off + k * 6 + 2, none⟩) hbw).trans c2
        have e3 : wr.cell? ⟨b, off + k * 6 + 3, none⟩ = some (str x.s) := (HWW.out.cell (p := ⟨b, off + k * 6 + 3, none⟩) hbw).trans c3
        have e4 : wr.cell? ⟨b, off + k * 6 + 4, none⟩ = some (.slice a n c) := (HWW.out.cell (p := ⟨b, off + k * 6 + 4, none⟩) hbw).trans c4
        have e5 : wr.cell? ⟨b, off + k * 6 + 5, none⟩ = some (.slice a' n' c') := (HWW.out.cell (p := ⟨b, off + k * 6 + 5, none⟩) hbw).trans c5
        have CQ := rquote_yes nm CI.1
        have CP : Hid (∀ W, Below wr.heap.size wr W → Calls Tryd.prog 49 #[.agg #[.int .i64 x.kind, .int .i64 x.n, str x.s, .slice a n c, .slice a' n' c']] W fun e w' => e = .returned (str (prV x)) ∧ Below W.heap.size W w') := Lib.hid (fun W h => CI.2 F W _ ((hx.up HWW.out).up h))
        obtain ⟨X, hX⟩ : ∃ X, X = prV x := ⟨_, rfl⟩
        obtain ⟨QN, hQN⟩ : ∃ QN, QN = quo nm := ⟨_, rfl⟩
        rw [← hX] at CP HN HN0 hxl
        rw [← hQN] at CQ HN HN0 hxl
        have CQ := Lib.hid CQ
        have hql : QN.length ≤ 1000000000 := by omega
        replace hxl : X.length ≤ 1000000000 := by omega
        clear hx c0 c1 c2 c3 c4 c5 hbw hX hQN CI
        by_cases h0 : k = 0
        · have y7 : decide ((0 : Int) < (k : Int)) = false := decide_eq_false (by omega)
          have y8 : decide (0 < k) = false := decide_eq_false (by omega)
          have y9 : ¬ 0 < k := by omega
          have y10 : ¬ (0 : Int) < (k : Int) := by omega
          have hz : obT v.m k = [] := by rw [h0]; rfl
          have HQ : Hid (A ++ (QN ++ 58 :: X) = 123 :: obT v.m (k + 1)) := Lib.hid (by rw [HA.out, HN0.out h0, hz]; simp)
          clear h0 HN HN0 hz
          go_upto_region 28 with fail
          obtain ⟨A2, hA2⟩ : ∃ A2, A2 = A := ⟨_, rfl⟩
          have h2l : A2.length ≤ 1000000002 := by rw [hA2]; first | omega | (simp; omega)
          rw [← hA2] at HQ
          subst hA2
          have l2 : ¬ 9223372036854775807 < QN.length + 1 := by omega
          have l3 : ¬ 9223372036854775807 < QN.length + 1 + X.length := by omega
          have l4 : ¬ 9223372036854775807 < QN.length + (1 + X.length) := by omega
          have l5 : ¬ 9223372036854775807 < QN.length + (X.length + 1) := by omega
          have l6 : ¬ 9223372036854775807 < A2.length + (QN.length + (X.length + 1)) := by omega
          have l7 : ¬ 9223372036854775807 < A2.length + (QN.length + 1 + X.length) := by omega
          have l8 : ¬ 9223372036854775807 < A2.length + (QN.length + (1 + X.length)) := by omega
          clear hAl hxl hql h2l l1
          go_wp2_with fail
          refine (CQ.out _).mono ?_
          rintro e w2 ⟨rfl, hb2⟩
          have HW2 := Lib.hid (HW.out.trans (hb2.mono HW.out.size))
          have HW3 := Lib.hid hb2
          have CP2 := Lib.hid (CP.out w2 HW3.out)
          have b4 := box_cell (box_up HB.out.2 HW2.out) 4
          replace e0 := (HW3.out.cell (p := ⟨b, off + k * 6, none⟩) (World.block_lt_of_cell? wr _ e0)).trans e0
          replace e1 := (HW3.out.cell (p := ⟨b, off + k * 6 + 1, none⟩) (World.block_lt_of_cell? wr _ e1)).trans e1
          replace e2 := (HW3.out.cell (p := ⟨b, off + k * 6 + 2, none⟩) (World.block_lt_of_cell? wr _ e2)).trans e2
          replace e3 := (HW3.out.cell (p := ⟨b, off + k * 6 + 3, none⟩) (World.block_lt_of_cell? wr _ e3)).trans e3
          replace e4 := (HW3.out.cell (p := ⟨b, off + k * 6 + 4, none⟩) (World.block_lt_of_cell? wr _ e4)).trans e4
          replace e5 := (HW3.out.cell (p := ⟨b, off + k * 6 + 5, none⟩) (World.block_lt_of_cell? wr _ e5)).trans e5
          clear hb2 CQ CP
          go_wp2_with fail
          refine CP2.out.mono ?_
          rintro e w3 ⟨rfl, hb3⟩
          have HX := Lib.hid (HW2.out.trans (hb3.mono HW2.out.size))
          clear hb3 CP2
          go_wp2_with fail
          go_roundw
          case rel => exact ⟨k + 1, A2 ++ (QN ++ 58 :: X), by omega, rfl, by go_num, HQ, HX⟩
          case measure => simp [intOf]; omega
        · have y7 : decide ((0 : Int) < (k : Int)) = true := decide_eq_true (by omega)
          have y8 : decide (0 < k) = true := decide_eq_true (by omega)
          have y9 : 0 < k := by omega
          have y10 : (0 : Int) < (k : Int) := by omega
          have HQ : Hid ((A ++ [44]) ++ (QN ++ 58 :: X) = 123 :: obT v.m (k + 1)) := Lib.hid (by rw [HA.out, HN.out h0]; simp)
          clear h0 HN HN0
          go_upto_region 28 with fail
          obtain ⟨A2, hA2⟩ : ∃ A2, A2 = (A ++ [44]) := ⟨_, rfl⟩
          have h2l : A2.length ≤ 1000000002 := by rw [hA2]; first | omega | (simp; omega)
          rw [← hA2] at HQ
          rw [← hA2]
          clear hA2
          have l2 : ¬ 9223372036854775807 < QN.length + 1 := by omega
          have l3 : ¬ 9223372036854775807 < QN.length + 1 + X.length := by omega
          have l4 : ¬ 9223372036854775807 < QN.length + (1 + X.length) := by omega
          have l5 : ¬ 9223372036854775807 < QN.length + (X.length + 1) := by omega
          have l6 : ¬ 9223372036854775807 < A2.length + (QN.length + (X.length + 1)) := by omega
          have l7 : ¬ 9223372036854775807 < A2.length + (QN.length + 1 + X.length) := by omega
          have l8 : ¬ 9223372036854775807 < A2.length + (QN.length + (1 + X.length)) := by omega
          clear hAl hxl hql h2l l1
          go_wp2_with fail
          refine (CQ.out _).mono ?_
          rintro e w2 ⟨rfl, hb2⟩
          have HW2 := Lib.hid (HW.out.trans (hb2.mono HW.out.size))
          have HW3 := Lib.hid hb2
          have CP2 := Lib.hid (CP.out w2 HW3.out)
          have b4 := box_cell (box_up HB.out.2 HW2.out) 4
          replace e0 := (HW3.out.cell (p := ⟨b, off + k * 6, none⟩) (World.block_lt_of_cell? wr _ e0)).trans e0
          replace e1 := (HW3.out.cell (p := ⟨b, off + k * 6 + 1, none⟩) (World.block_lt_of_cell? wr _ e1)).trans e1
          replace e2 := (HW3.out.cell (p := ⟨b, off + k * 6 + 2, none⟩) (World.block_lt_of_cell? wr _ e2)).trans e2
          replace e3 := (HW3.out.cell (p := ⟨b, off + k * 6 + 3, none⟩) (World.block_lt_of_cell? wr _ e3)).trans e3
          replace e4 := (HW3.out.cell (p := ⟨b, off + k * 6 + 4, none⟩) (World.block_lt_of_cell? wr _ e4)).trans e4
          replace e5 := (HW3.out.cell (p := ⟨b, off + k * 6 + 5, none⟩) (World.block_lt_of_cell? wr _ e5)).trans e5
          clear hb2 CQ CP
          go_wp2_with fail
          refine CP2.out.mono ?_
          rintro e w3 ⟨rfl, hb3⟩
          have HX := Lib.hid (HW2.out.trans (hb3.mono HW2.out.size))
          clear hb3 CP2
          go_wp2_with fail
          go_roundw
          case rel => exact ⟨k + 1, A2 ++ (QN ++ 58 :: X), by omega, rfl, by go_num, HQ, HX⟩
          case measure => simp [intOf]; omega
      · obtain rfl : k = v.m.length := by omega
        have n2 : ¬ (v.m.length : Int) < (v.m.length : Int) := by omega
        clear hAl
        go_wp2_with fail
        go_ret
        exact ⟨by rw [HE.out, HA.out]; rfl, HWW.out⟩
theorem rjprn_all (v : JV) : RPrnC v := JV.ind rjprn_step v
end Go.Proofs.YtjnejbeeoepdnaaDoor
