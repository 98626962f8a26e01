/- VersOrder: the walk. -/
import Derived.Test.YtdlacjdddjebgaaV2
import Derived.Test.YtdlacjdddjebgaaV11OrdM
import Derived.Test.YtdlacjdddjebgaaV11Chain
import Derived.Test.YtdlacjdddjebgaaQuietB
import Derived.Laws.Cover1
import Derived.Deep.RegionHeld3
import Derived.Deep.CutRange
namespace Go.Proofs.Ytdlacjdddjebgaa
open Go.RowKit

theorem info11 : (Try.prog.info? 32).map (fun i => (i.zero, i.size, i.bytes)) = some (some (.agg #[.int .i64 0, .int .i64 0, str [], str [], str []]), 5, 64) := by kernel_rfl
/-- The operations that were chosen. -/
def OrdP (B : Nat) (w2 W : World) (v : Value) (P : List Op11) : Prop :=
  W.ownsRow B 32 5 v P.length (P.map cells11).flatten ∧ Below w2.heap.size w2 W ∧ (∀ o ∈ P, o.kind = 0 ∨ o.kind = 1) ∧ P.Pairwise (fun a b => a.key ≠ b.key)
theorem rot_get {α : Type} (P : List α) (r k : Nat) (hr : r < P.length) (hk : k < P.length) : (P.drop r ++ P.take r)[k]? = P[(k + r) % P.length]? := by
  by_cases h : k + r < P.length
  · rw [List.getElem?_append_left (by rw [List.length_drop]; omega), List.getElem?_drop, Nat.mod_eq_of_lt h, Nat.add_comm]
  · have e : (k + r) % P.length = k + r - P.length := by
      rw [Nat.mod_eq_sub_mod (by omega), Nat.mod_eq_of_lt (by omega)]
    rw [List.getElem?_append_right (by rw [List.length_drop]; omega), List.length_drop, List.getElem?_take, if_pos (by omega), e]
    congr 1
    omega
theorem opsC_snoc (P : List Op11) (k : Nat) (h : k < P.length) : opsC (P.take (k + 1)) [] = opC P[k] (opsC (P.take k) []) 0 := by
  unfold opsC
  rw [List.take_add_one, List.getElem?_eq_getElem h, List.foldl_append]
  rfl
theorem rd11_row {W : World} {B : Nat} {v : Value} {P : List Op11} (h : W.ownsRow B 32 5 v P.length (P.map cells11).flatten) : Rd11 W v P :=
  RdF.of_row (sz := 5) (fun r hr => by obtain ⟨p, _, rfl⟩ := List.mem_map.1 hr; rfl) (by simpa using h)
/-- Both stores under way, the operations. -/
def Ord3 (w1 w3 W : World) (K : Nat → Prop) (sa ma sb mb : Nat) (P R : List Op11) (k : Nat) : Prop :=
  S2 w1 K W sa ma (opsC (P.take k) []) 0 k sb mb (opsC (R.take k) []) 0 k ∧ Kp K w3 W
set_option maxRecDepth 100000 in
set_option maxHeartbeats 8000000 in
theorem order_main (va : Value) (l : List Op11) (turn at1 : Int) (w : World) (ha : Rd11 w va l) (hsa : ∀ o ∈ l, o.ok) (_ : -9223372036854775808 ≤ turn ∧ turn ≤ 9223372036854775807) (_ : -9223372036854775808 ≤ at1 ∧ at1 ≤ 9223372036854775807) :
    Calls Try.prog 6 #[va, .int .i64 turn, .int .i64 at1] w fun e w' => e = .returned (.bool true) ∧ Below w.heap.size w w' := by
  have CF := Lib.hid v11first_any
  have CN := Lib.hid newG
  have CA : Hid (∀ W, Below w.heap.size w W → Calls Try.prog 10 #[va] W (FewP11 l W)) := Lib.hid (fun W h => few11_any va l W (ha.up h) hsa)
  have HRA := Lib.hid ha
  obtain ⟨aa, ca, rfl, _⟩ := HRA.out.form
  clear ha hsa
  go_enter Try.func6, Try.ntmps6
  go_wp2_with fail
  refine (CF.out _).mono ?_
  rintro e w1 ⟨rfl, hb1⟩
  have H1 := Lib.hid hb1
  clear hb1
  go_wp2_with fail
  refine (CN.out _).mono ?_
  rintro e w2 ⟨sa, ma, rfl, h2⟩
  have C2 := Lib.hid (new2 h2)
  clear h2 CN
  go_wp2_with fail
  refine C2.out.mono ?_
  rintro e w2 ⟨sb, mb, rfl, h2⟩
  have H2 := Lib.hid h2
  have HB2 : Hid (Below w.heap.size w w2) := Lib.hid (H1.out.trans (H2.out.bel.mono H1.out.size))
  clear h2 C2
  by_cases hl : 100 < l.length
  · have d1 : decide ((100 : Int) < (l.length : Int)) = true := decide_eq_true (by omega)
    go_wp2_with fail
    refine (CF.out _).mono ?_
    rintro e w3 ⟨rfl, hb3⟩
    have HX := Lib.hid (HB2.out.trans (hb3.mono HB2.out.size))
    clear hb3
    go_wp2_with fail
    go_ret
    exact ⟨rfl, HX.out⟩
  have d1 : decide ((100 : Int) < (l.length : Int)) = false := decide_eq_false (by omega)
  go_wp2_with fail
  refine (CA.out _ HB2.out).mono ?_
  rintro e w' ⟨ba, rfl, hla, rfl⟩
  clear hla CA
  cases ba
  case false =>
    go_wp2_with fail
    refine (CF.out _).mono ?_
    rintro e w3 ⟨rfl, hb3⟩
    have HX := Lib.hid (HB2.out.trans (hb3.mono HB2.out.size))
    clear hb3
    go_wp2_with fail
    go_ret
    exact ⟨rfl, HX.out⟩
  by_cases h0 : turn < 0
  · have g0 : decide (turn < 0) = true := decide_eq_true h0
    go_wp2_with fail
    refine (CF.out _).mono ?_
    rintro e w3 ⟨rfl, hb3⟩
    have HX := Lib.hid (HB2.out.trans (hb3.mono HB2.out.size))
    clear hb3
    go_wp2_with fail
    go_ret
    exact ⟨rfl, HX.out⟩
  have g0 : decide (turn < 0) = false := decide_eq_false h0
  go_wp2_with fail
  have HO : Hid (OrdP w2.heap.size w2 w2 (.slice none 0 0) []) := Lib.hid ⟨World.ownsRow_nil _ _ _ _, Below.refl _ _, by simp, List.Pairwise.nil⟩
  go_loopw [9, 10, 11, 12, 13] (fun v i o has kk wr => ∃ (k : Nat) (P : List Op11), k ≤ l.length ∧ P.length ≤ k ∧ i = .int .i64 (k : Int) ∧ Hid (OrdP w2.heap.size w2 wr v P)) (fun v i _ _ _ _ => l.length - (intOf i).toNat)
  case atStart => exact ⟨0, [], Nat.zero_le _, Nat.zero_le _, rfl, HO⟩
  case round =>
    obtain ⟨k, P, hk, hPk, rfl, HS⟩ := hrel
    have hr := HS.out.1
    have hPl : P.length ≤ 100 := by omega
    by_cases hlt : k < l.length
    · have g3 : decide ((k : Int) < (l.length : Int)) = true := decide_eq_true (by omega)
      have g3' : (k : Int) < (l.length : Int) := by omega
      have g4 : (0 : Int) ≤ (k : Int) := by omega
      have hW : Below w.heap.size w wr := HB2.out.trans (HS.out.2.1.mono HB2.out.size)
      obtain ⟨bA, oA, rfl, c0, c1, c2, c3, c4⟩ := (HRA.out.up hW).get hlt
      obtain ⟨o, ho⟩ : ∃ o, o = l[k] := ⟨_, rfl⟩
      rw [← ho] at c0 c1 c2 c3 c4
      have hbl := below_alloc wr (.cells #[.int .i64 o.kind, .int .i64 o.at1, str o.key, str o.v, str o.hi] 32)
      obtain ⟨W1, hW1⟩ : ∃ W1, W1 = wr.alloc (.cells #[.int .i64 o.kind, .int .i64 o.at1, str o.key, str o.v, str o.hi] 32) := ⟨_, rfl⟩
      have hb1 : W1.heap[wr.heap.size]? = some (.cells #[.int .i64 o.kind, .int .i64 o.at1, str o.key, str o.v, str o.hi] 32 (0, 0)) := by rw [hW1]; exact Array.getElem?_push_size
      have e0 : W1.cell? ⟨wr.heap.size, 0, none⟩ = some (.int .i64 o.kind) := by simp [World.cell?, hb1]
      have e1 : W1.cell? ⟨wr.heap.size, 1, none⟩ = some (.int .i64 o.at1) := by simp [World.cell?, hb1]
      have e2 : W1.cell? ⟨wr.heap.size, 2, none⟩ = some (str o.key) := by simp [World.cell?, hb1]
      have e3 : W1.cell? ⟨wr.heap.size, 3, none⟩ = some (str o.v) := by simp [World.cell?, hb1]
      have e4 : W1.cell? ⟨wr.heap.size, 4, none⟩ = some (str o.hi) := by simp [World.cell?, hb1]
      obtain ⟨hr0, hr1, hr2, hr3⟩ := HS.out
      rw [← hW1] at hbl
      have HO1 : Hid (OrdP w2.heap.size w2 W1 u9 P) := Lib.hid ⟨owns_below hr0 hbl (Nat.le_refl _), hr1.trans (hbl.mono hr1.size), hr2, hr3⟩
      have HB1 := Lib.hid hb1
      obtain ⟨av, cv, rfl, _⟩ := (show Rd11 wr u9 P from RdF.of_row (sz := 5) (fun r hr => by obtain ⟨p, _, rfl⟩ := List.mem_map.1 hr; rfl) (by simpa using hr0)).form
      have HG : Hid (Rd11 W1 (.slice av P.length cv) P) := Lib.hid (RdF.of_row (sz := 5) (fun r hr => by obtain ⟨p, _, rfl⟩ := List.mem_map.1 hr; rfl) (by simpa using HO1.out.1))
      clear ho hW hr hr0 hr1 hr2 hr3 HS hb1
      go_wp2_with fail
      rw [← hW1]
      have HW1 := Lib.hid hW1
      clear hW1 hbl c0 c1 c2 c3 c4
      generalize wr.heap.size = bo at *
      go_loopw [12, 13] (fun has kk wr' => ∃ (j q : Nat) (b : Bool), j ≤ P.length ∧ kk = .int .i64 (j : Int) ∧ has = .bool b ∧ Hid (b = (P.take j).any (fun p => p.key == o.key)) ∧ wr' = W1.drewN q) (fun _ kk _ => P.length - (intOf kk).toNat)
      case atStart => exact ⟨0, 0, false, Nat.zero_le _, rfl, rfl, Lib.hid (by simp), rfl⟩
      case round =>
        obtain ⟨j, q, b, hj, rfl, rfl, HA, rfl⟩ := hrel
        by_cases hlt : j < P.length
        · have g3 : decide ((j : Int) < (P.length : Int)) = true := decide_eq_true (by omega)
          have g3' : (j : Int) < (P.length : Int) := by omega
          have g4 : (0 : Int) ≤ (j : Int) := by omega
          obtain ⟨bP, oP, rfl, _, _, f2, _, _⟩ := HG.out.get hlt
          obtain ⟨pk, hpk⟩ : ∃ pk, pk = P[j].key := ⟨_, rfl⟩
          rw [← hpk] at f2
          have HA2 : Hid ((b || (pk == o.key)) = (P.take (j + 1)).any (fun p => p.key == o.key)) := Lib.hid (by
            rw [List.take_add_one, List.any_append, ← HA.out, List.getElem?_eq_getElem hlt]
            simp [hpk])
          obtain ⟨bk, hbk⟩ : ∃ bk, bk = (pk == o.key) := ⟨_, rfl⟩
          rw [← hbk] at HA2
          have hbk' := hbk.symm
          clear hpk HA hbk
          cases b
          all_goals
            go_wp2_with fail
            go_quiet (fail)
            go_wp2_with fail
            go_roundw
            case rel => exact ⟨j + 1, _, _, by omega, by go_num, rfl, HA2, rfl⟩
            case measure => simp [intOf]; omega
        · obtain rfl : j = P.length := by omega
          have g3 : decide ((P.length : Int) < (P.length : Int)) = false := decide_eq_false (by omega)
          rw [List.take_length] at HA
          have hO2 : OrdP w2.heap.size w2 (W1.drewN q) (.slice av P.length cv) P := ⟨owns_below HO1.out.1 (Below.drewsN (Below.refl _ _) q) (Nat.le_refl _), HO1.out.2.1.trans ((Below.drewsN (Below.refl W1.heap.size W1) q).mono HO1.out.2.1.size), HO1.out.2.2⟩
          have HO2 := Lib.hid hO2
          clear hO2 HO1 HG
          by_cases hc : b = false ∧ o.kind < 2 ∧ 0 ≤ o.kind
          · obtain ⟨rfl, k1, k2⟩ := hc
            have d2 : decide (o.kind < 2) = true := decide_eq_true k1
            have d3 : decide ((0 : Int) ≤ o.kind) = true := decide_eq_true k2
            have HN : Hid (∀ p ∈ P, p.key ≠ o.key) := Lib.hid (fun p hp e => by
              have := List.any_eq_false.1 HA.out.symm p hp
              simp [e] at this)
            have HKd : Hid (o.kind = 0 ∨ o.kind = 1) := Lib.hid (by omega)
            clear HA k1 k2
            obtain ⟨i0, hi, hz0, hz1, hz2⟩ := info_parts info11
            have hB1 : W1.heap.size ≤ (W1.drewN q).heap.size := Nat.le_refl _
            have hBw : w2.heap.size ≤ (W1.drewN q).heap.size := HO2.out.2.1.size
            go_wp2_with (at_builtin; refine hold ?_)
            intro _
            refine wpList_appendF (by rfl) _ _ 22 (by rfl) w2.heap.size 32 i0 _ 5 64 Try.underlying22 hi hz0 hz1 hz2 rfl (by decide) _ P.length ((P.map cells11).flatten) (by rfl) (owns_below HO2.out.1 (below_alloc _ _) (Nat.le_refl _)) _ [cells11 o] (by simp [cells11]) (by simp [cells11, Value.oneCell']) (by rfl) (RdF.lit [cells11 o] (by simp [cells11]) (by exact World.alloc_heap_new _ _) rfl (by simp)) (fun c h => by cases h) (by simp only [List.length_singleton, maxLen]; omega) (by simp only [List.length_singleton]; omega) (by have := hBw; simp at this ⊢; omega) ?_
            intro v' w' ho hg
            have hb' : Below w2.heap.size w2 w' := (HO2.out.2.1.trans ((below_alloc (W1.drewN q) _).mono hBw)).grown hg (by have := hBw; simp at this ⊢; omega) (fun k hk => (World.ownsRow.lt HO2.out.1 k hk).1)
            have HX : Hid (OrdP w2.heap.size w2 w' v' (P ++ [o])) := Lib.hid ⟨by simpa using ho, hb', fun p hp => by
                rcases List.mem_append.1 hp with hp | hp
                · exact HO2.out.2.2.1 p hp
                · obtain rfl := List.mem_singleton.1 hp; exact HKd.out, List.pairwise_append.2 ⟨HO2.out.2.2.2, by simp, fun p hp q hq => by obtain rfl := List.mem_singleton.1 hq; exact HN.out p hp⟩⟩
            clear ho hg hb' HO2 HN HKd hi hz0 hz1 hz2
            go_wp2_with fail
            go_roundw
            case rel => exact ⟨k + 1, P ++ [o], by omega, by simp; omega, by go_num, HX⟩
            case measure => simp [intOf]; omega
          · by_cases hb : b = true
            · subst hb
              go_wp2_with fail
              go_roundw
              case rel => exact ⟨k + 1, P, by omega, by omega, by go_num, HO2⟩
              case measure => simp [intOf]; omega
            · obtain rfl : b = false := by simpa using hb
              by_cases k1 : o.kind < 2
              · have d2 : decide (o.kind < 2) = true := decide_eq_true k1
                have d3 : decide ((0 : Int) ≤ o.kind) = false := decide_eq_false (fun h => hc ⟨rfl, k1, h⟩)
                go_wp2_with fail
                go_roundw
                case rel => exact ⟨k + 1, P, by omega, by omega, by go_num, HO2⟩
                case measure => simp [intOf]; omega
              · have d2 : decide (o.kind < 2) = false := decide_eq_false k1
                go_wp2_with fail
                go_roundw
                case rel => exact ⟨k + 1, P, by omega, by omega, by go_num, HO2⟩
                case measure => simp [intOf]; omega
    · obtain rfl : k = l.length := by omega
      have g3 : decide ((l.length : Int) < (l.length : Int)) = false := decide_eq_false (by omega)
      obtain ⟨w3, rfl⟩ : ∃ w3, w3 = wr := ⟨_, rfl⟩
      obtain ⟨K, hK⟩ : ∃ K : Nat → Prop, K = fun i => w2.heap.size ≤ i ∧ i < w3.heap.size := ⟨_, rfl⟩
      obtain ⟨cr, hcr⟩ : ∃ c : Option Addr × Nat, u9 = Value.slice c.1 P.length c.2 := by
        obtain ⟨a, c, h, _⟩ := (rd11_row hr).form
        exact ⟨(a, c), h⟩
      obtain ⟨av, cv⟩ := cr
      subst hcr
      have HRW : Hid (∀ W, Kp K w3 W → Rd11 W (.slice av P.length cv) P) := Lib.hid (fun W h => rd11_row (owns_frm hr h (fun k e he => he (by rw [hK]; exact World.ownsRow.lt hr k e))))
      have HQ : Hid (S2 w1 K w3 sa ma [] 0 0 sb mb [] 0 0) := Lib.hid (by rw [hK]; exact H2.out.keep HS.out.2.1)
      have HP : Hid ((∀ o ∈ P, o.kind = 0 ∨ o.kind = 1) ∧ P.Pairwise (fun a b => a.key ≠ b.key)) := Lib.hid HS.out.2.2
      obtain ⟨n, hn⟩ : ∃ n, n = P.length := ⟨_, rfl⟩
      obtain ⟨r, hrr⟩ : ∃ r : Nat, r = turn.toNat % n := ⟨_, rfl⟩
      obtain ⟨R, hR⟩ : ∃ R : List Op11, R = P.drop r ++ P.take r := ⟨_, rfl⟩
      have HRn : Hid (R.length = n ∧ P.Perm R ∧ ∀ k, k < n → R[k]? = P[(k + r) % n]?) := Lib.hid (by
        refine ⟨by rw [hR, List.length_append, List.length_drop, List.length_take]; omega, ?_, fun k hk => ?_⟩
        · have := List.perm_append_comm (l₁ := P.take r) (l₂ := P.drop r)
          rwa [List.take_append_drop, ← hR] at this
        · rw [hR, hn]
          have : r < P.length := by rw [hrr, hn]; exact Nat.mod_lt _ (by omega)
          exact rot_get P r k this (by omega))
      have hr0 : 0 < n → r < n := fun h => by rw [hrr]; exact Nat.mod_lt _ h
      have ht : Int.tmod turn (n : Int) = (r : Int) := by
        obtain ⟨T, hT⟩ := Int.eq_ofNat_of_zero_le (a := turn) (by omega)
        rw [hrr, hT, Int.toNat_natCast]; norm_cast
      have HT := Lib.hid hrr
      clear hr HS hR hK hrr
      rw [← hn] at hPk hPl HRW ⊢
      have Hn := Lib.hid hn
      clear hn
      go_wp2_with fail
      go_loopw [14] (fun i wr' => ∃ k : Nat, k ≤ n ∧ i = .int .i64 (k : Int) ∧ Hid (Ord3 w1 w3 wr' K sa ma sb mb P R k)) (fun i _ => n - (intOf i).toNat)
      case atStart => exact ⟨0, Nat.zero_le _, rfl, Lib.hid ⟨HQ.out, Frm.refl _ _⟩⟩
      case round =>
        obtain ⟨k, hk, rfl, HS⟩ := hrel
        by_cases hlt : k < n
        · have g3 : decide ((k : Int) < (n : Int)) = true := decide_eq_true (by omega)
          have g3' : (k : Int) < (n : Int) := by omega
          have g4 : (0 : Int) ≤ (k : Int) := by omega
          have hltP : k < P.length := by rw [← Hn.out]; exact hlt
          have hltR : k < R.length := by rw [HRn.out.1]; exact hlt
          obtain ⟨bP, oP, rfl, c0, c1, c2, c3, c4⟩ := (HRW.out _ HS.out.2).get hltP
          have CP := Lib.hid (putO2 HS.out.1 (by omega) P[k])
          have HE := Lib.hid (And.intro (opsC_snoc P k hltP) (opsC_snoc R k hltR))
          obtain ⟨j, hj⟩ : ∃ j, j = (k + r) % n := ⟨_, rfl⟩
          have hjn : j < n := by rw [hj]; exact Nat.mod_lt _ (by omega)
          have hjP : j < P.length := by rw [← Hn.out]; exact hjn
          have heR : R[k] = P[j] := by
            have := HRn.out.2.2 k hlt
            rw [← hj, List.getElem?_eq_getElem hltR, List.getElem?_eq_getElem hjP] at this
            exact Option.some.inj this
          have t0 : (n == 0) = false := by simp; omega
          have t0' : ¬ ((n : Int) = 0) := by omega
          have t1 : IntKind.i64.wrap ((k : Int) + (r : Int)) = ((k + r : Nat) : Int) := by have := hr0 (by omega); rw [IntWalk.i64_in _ (by omega)]; omega
          have t2 : ((k : Int) + (r : Int)) % (n : Int) = (j : Int) := by rw [hj]; norm_cast
          have t3 : (k + r) % n = j := hj.symm
          have j1 : (j : Int) < (n : Int) := by omega
          have j2 : (0 : Int) ≤ (j : Int) := by omega
          obtain ⟨o, ho⟩ : ∃ o, o = P[k] := ⟨_, rfl⟩
          rw [← ho] at c0 c1 c2 c3 c4 CP HE
          rw [heR] at HE
          obtain ⟨p, hp⟩ : ∃ p, p = P[j] := ⟨_, rfl⟩
          rw [← hp] at HE
          have HGP : Hid (∀ W, Kp K w3 W → W.cell? ⟨bP, oP + j * 5, none⟩ = some (.int .i64 p.kind) ∧ W.cell? ⟨bP, oP + j * 5 + 1, none⟩ = some (.int .i64 p.at1) ∧ W.cell? ⟨bP, oP + j * 5 + 2, none⟩ = some (str p.key) ∧ W.cell? ⟨bP, oP + j * 5 + 3, none⟩ = some (str p.v) ∧ W.cell? ⟨bP, oP + j * 5 + 4, none⟩ = some (str p.hi)) := Lib.hid (fun W h => by
            obtain ⟨_, _, hh, d⟩ := (HRW.out _ h).get hjP
            cases hh
            rw [hp]; exact d)
          have HS0 := Lib.hid HS.out.2
          obtain ⟨kd, oa, ky, y, hi⟩ := o
          dsimp only at c0 c1 c2 c3 c4
          unfold enc11 at CP
          dsimp only at CP
          have HJ := Lib.hid hj
          clear ho hp heR hltP hltR hjP HS hj
          go_wp2_with fail
          refine CP.out.mono ?_
          rintro e w4 ⟨rfl, h4, h5⟩
          have H4 := Lib.hid h4.swap
          have H5 := Lib.hid (HS0.out.tr h5)
          clear h4 h5 CP c0 c1 c2 c3 c4
          obtain ⟨c0, c1, c2, c3, c4⟩ := HGP.out _ H5.out
          have CP := Lib.hid (putO2 H4.out (by omega) p)
          obtain ⟨pkd, poa, pky, py, phi⟩ := p
          dsimp only at c0 c1 c2 c3 c4
          unfold enc11 at CP
          dsimp only at CP
          go_wp2_with fail
          refine CP.out.mono ?_
          rintro e w5 ⟨rfl, h4, h5⟩
          have HX : Hid (Ord3 w1 w3 w5 K sa ma sb mb P R (k + 1)) := Lib.hid ⟨by rw [HE.out.1, HE.out.2]; exact h4.swap, H5.out.tr h5⟩
          clear h4 h5 CP c0 c1 c2 c3 c4 HE
          go_wp2_with fail
          go_roundw
          case rel => exact ⟨k + 1, by omega, by go_num, HX⟩
          case measure => simp [intOf]; omega
        · obtain rfl : k = n := by omega
          have g3 : decide ((k : Int) < (k : Int)) = false := decide_eq_false (by omega)
          obtain ⟨h3, hKp⟩ := HS.out
          rw [show P.take k = P by rw [Hn.out]; exact List.take_length, show R.take k = R by rw [← HRn.out.1]; exact List.take_length] at h3
          obtain ⟨C, hC⟩ : ∃ C, C = opsC P [] := ⟨_, rfl⟩
          have hC2 : opsC R [] = C := by rw [hC]; exact (ops_order HRn.out.2.1 HP.out.1 HP.out.2 h3.sg.ris.2.1 h3.swap.sg.ris.2.1).symm
          rw [hC2, ← hC] at h3
          have HA3 := Lib.hid h3
          have HK3 := Lib.hid hKp
          have n1 : ((totC C : Int) != (totC C : Int)) = false := bne_self_eq_false _
          have CC := Lib.hid (countG h3.sg)
          have CD := Lib.hid (countG h3.swap.sg)
          have CS := Lib.hid (scan_any wr sa [] [] at1)
          have CQ := Lib.hid (scannedG h3.sg (by omega) at1 1048576 (by decide))
          have et : (scanC at1 C).take (1048576 : Int).toNat = scanC at1 C := List.take_of_length_le (by have := scan_len at1 C; have := h3.sg.ris.2.2; show _ ≤ 1048576; omega)
          rw [et] at CQ
          have HL : Hid ((scanC at1 C).length ≤ 100) := Lib.hid (by have := scan_len at1 C; have := h3.sg.ris.2.2; omega)
          have HET := Lib.hid et
          clear h3 hKp hC hC2 HS HQ et
          go_wp2_with fail
          refine CC.out.mono ?_
          rintro e w' ⟨rfl, rfl⟩
          go_wp2_with fail
          refine CD.out.mono ?_
          rintro e w' ⟨rfl, rfl⟩
          go_wp2_with fail
          refine CS.out.mono ?_
          rintro e w' ⟨rfl, rfl⟩
          go_wp2_with fail
          refine CQ.out.mono ?_
          intro e w4 h4
          obtain ⟨va, rfl, _, hra, hb4⟩ := scanP_read h4
          have H4 := Lib.hid (HA3.out.below hb4)
          have HK4 := Lib.hid (HK3.out.tr (Kp.of hb4))
          have HR4 := Lib.hid hra
          have CS := Lib.hid (scan_any w4 sb [] [] at1)
          have CQ := Lib.hid (scannedG H4.out.swap.sg (by omega) at1 1048576 (by decide))
          rw [HET.out] at CQ
          obtain ⟨_, _, rfl, _⟩ := hra.form
          clear hra h4 hb4 HA3 HK3 CC CD
          go_wp2_with fail
          refine CS.out.mono ?_
          rintro e w' ⟨rfl, rfl⟩
          go_wp2_with fail
          refine CQ.out.mono ?_
          intro e w5 h5
          obtain ⟨vb, rfl, _, hrb, hb5⟩ := scanP_read h5
          have H5 := Lib.hid (H4.out.below hb5)
          have HK5 := Lib.hid (HK4.out.tr (Kp.of hb5))
          have CA := Lib.hid (alikePairs_any _ _ (scanC at1 C) w5 (RdF.below HR4.out hb5 (Nat.le_refl _)) hrb)
          obtain ⟨_, _, rfl, _⟩ := hrb.form
          clear hrb h5 hb5 H4 HK4 HR4 CS CQ
          go_wp2_with fail
          refine CA.out.mono ?_
          rintro e w6 ⟨rfl, hb6⟩
          have H6 : Hid (S2 w1 K w6 sa ma C 0 k sb mb C 0 k ∧ Kp K w3 w6) := Lib.hid ⟨H5.out.below hb6, HK5.out.tr (Kp.of hb6)⟩
          clear hb6 H5 HK5 CA
          go_wp2_with fail
          go_loopw [15, 16, 17] (fun i c kk wr' => ∃ j : Nat, j ≤ k ∧ i = .int .i64 (j : Int) ∧ Hid (S2 w1 K wr' sa ma C 0 k sb mb C 0 k ∧ Kp K w3 wr')) (fun i _ _ _ => k - (intOf i).toNat)
          case atStart => exact ⟨0, Nat.zero_le _, rfl, H6⟩
          case round =>
            obtain ⟨j, hj, rfl, HS⟩ := hrel
            obtain ⟨w7, rfl⟩ : ∃ w7, w7 = wr := ⟨_, rfl⟩
            clear H6
            by_cases hlt : j < k
            · have g3 : decide ((j : Int) < (k : Int)) = true := decide_eq_true (by omega)
              have g3' : (j : Int) < (k : Int) := by omega
              have g4 : (0 : Int) ≤ (j : Int) := by omega
              have hltP : j < P.length := by rw [← Hn.out]; exact hlt
              obtain ⟨bP, oP, rfl, k0, k1, c2, k3, k4⟩ := (HRW.out _ HS.out.2).get hltP
              clear k0 k1 k3 k4
              obtain ⟨ky, hky⟩ : ∃ ky : List UInt8, ky = P[j].key := ⟨_, rfl⟩
              rw [← hky] at c2
              have CH := Lib.hid (chainG HS.out.1.sg (by omega) ky)
              have HRT : Hid (RisT (timesVS (verC ky C)) ∧ (verC ky C).length ≤ 1000000) := Lib.hid (by
                obtain ⟨t, S, h1, rfl, _⟩ := HS.out.1.sg
                have := (h1.chain ky).2
                rw [ver_chs] at this
                exact ⟨this.1, by have := this.2; show ((getB ky (chsVS S)).getD []).length ≤ _; omega⟩)
              obtain ⟨c, hc⟩ : ∃ c, c = verC ky C := ⟨_, rfl⟩
              rw [← hc] at CH HRT
              have HCE : Hid (∀ W, Kp K w3 W → W.cell? ⟨bP, oP + j * 5 + 2, none⟩ = some (str ky)) := Lib.hid (fun W h => by
                obtain ⟨_, _, hh, _, _, d, _⟩ := (HRW.out _ h).get hltP
                cases hh
                rw [hky]; exact d)
              have HC2 := Lib.hid hc
              clear hky hc
              go_wp2_with fail
              refine CH.out.mono ?_
              rintro e w8 ⟨vc, rfl, hv, hb8⟩
              have H8 : Hid (S2 w1 K w8 sa ma C 0 k sb mb C 0 k ∧ Kp K w3 w8) := Lib.hid ⟨HS.out.1.below hb8, HS.out.2.tr (Kp.of hb8)⟩
              have HV := Lib.hid hv
              obtain ⟨ac, cc, rfl, _⟩ := hv.form
              obtain ⟨m, hm⟩ : ∃ m, m = c.length := ⟨_, rfl⟩
              have hml : m ≤ 1000000 := by rw [hm]; exact HRT.out.2
              rw [← hm] at HV ⊢
              have HM := Lib.hid hm
              clear hv hb8 CH HS c2 hm
              go_wp2_with fail
              go_loopw [17] (fun kk wr' => ∃ z q : Nat, 1 ≤ z ∧ (z ≤ m ∨ z = 1) ∧ kk = .int .i64 (z : Int) ∧ wr' = w8.drewN q) (fun kk _ => m - (intOf kk).toNat)
              case atStart => exact ⟨1, 0, Nat.le_refl _, .inr rfl, rfl, rfl⟩
              case round =>
                obtain ⟨z, q, hz1, hz, rfl, rfl⟩ := hrel
                by_cases hltz : z < m
                · have g3 : decide ((z : Int) < (m : Int)) = true := decide_eq_true (by omega)
                  have g3' : (z : Int) < (m : Int) := by omega
                  have g4 : (0 : Int) ≤ (z : Int) := by omega
                  obtain ⟨y, hy⟩ : ∃ y, y = z - 1 := ⟨_, rfl⟩
                  have hzc : z < c.length := by rw [← HM.out]; exact hltz
                  have hyc : y < c.length := by omega
                  obtain ⟨bc, oc, rfl, d0, k1, k2⟩ := HV.out.get hzc
                  obtain ⟨_, _, hh, e0, k3, k4⟩ := HV.out.get hyc
                  clear k1 k2 k3 k4
                  cases hh
                  have hlt2 : c[y].1 < c[z].1 := by
                    have := risT_at HRT.out.1 (i := y) (j := z) (by simp [timesVS]; exact hyc) (by simp [timesVS]; exact hzc) (by omega)
                    simpa [timesVS] using this
                  obtain ⟨tz, htz⟩ : ∃ tz, tz = c[z].1 := ⟨_, rfl⟩
                  obtain ⟨ty, hty⟩ : ∃ ty, ty = c[y].1 := ⟨_, rfl⟩
                  rw [← htz] at d0 hlt2
                  rw [← hty] at e0 hlt2
                  have hw : IntKind.i64.wrap ((z : Int) - 1) = (y : Int) := by rw [IntWalk.i64_in _ (by omega)]; omega
                  have hz1' : 0 < z := hz1
                  have j1 : (y : Int) < (m : Int) := by omega
                  have j2 : (0 : Int) ≤ (y : Int) := by omega
                  have q1 : decide (tz ≤ ty) = false := decide_eq_false (by omega)
                  clear htz hty hzc hyc hy
                  go_wp2_with fail
                  go_quiet (fail)
                  go_wp2_with fail
                  go_roundw
                  case rel => exact ⟨z + 1, _, by omega, by omega, by go_num, rfl⟩
                  case measure => simp [intOf]; omega
                · have g3 : decide ((z : Int) < (m : Int)) = false := decide_eq_false (by omega)
                  have HS0 : Hid (S2 w1 K (w8.drewN q) sa ma C 0 k sb mb C 0 k ∧ Kp K w3 (w8.drewN q)) := Lib.hid ⟨H8.out.1.below (Below.drewsN (Below.refl _ _) q), H8.out.2.tr (Kp.of (Below.drewsN (Below.refl _ _) q))⟩
                  generalize w8.drewN q = W8 at *
                  have n2 : (lastTVS c != lastTVS c) = false := bne_self_eq_false _
                  have HLT := Lib.hid (rfl : lastTVS c = lastTVS c)
                  have CL1 : Hid (∀ p : BelowBy W8, Calls Try.prog 18 #[.pointer (some ⟨sa, 0, none⟩), str ky] p.W fun e W' => e = .returned (.int .i64 (lastTVS c)) ∧ Below p.W.heap.size p.W W') := Lib.hid (fun p => by
                    rw [HC2.out]
                    exact (lastG (HS0.out.1.below p.h).sg (by omega) ky).mono (by rintro e W' ⟨rfl, rfl⟩; exact ⟨rfl, Below.refl _ _⟩))
                  have CL2 : Hid (∀ p : BelowBy W8, Calls Try.prog 18 #[.pointer (some ⟨sb, 0, none⟩), str ky] p.W fun e W' => e = .returned (.int .i64 (lastTVS c)) ∧ Below p.W.heap.size p.W W') := Lib.hid (fun p => by
                    rw [HC2.out]
                    exact (lastG (HS0.out.1.below p.h).swap.sg (by omega) ky).mono (by rintro e W' ⟨rfl, rfl⟩; exact ⟨rfl, Below.refl _ _⟩))
                  have z0 := Lib.hid (fun p : BelowBy W8 => BelowBy.cell (HCE.out _ HS0.out.2) p)
                  generalize lastTVS c = LT at *
                  clear HCE HV H8 HLT
                  go_wp2_with fail
                  refine wp_region_quiet_below (by kernel_rfl) (by kernel_rfl) ?_
                  iterate 7 (first | go_big_quiet_skip | (go_big_quiet_want; go_big_quiet_op; first | go_big_quiet_on | (simp only [z0.out, Result.andThen, true_and, forall_const, exists_eq_left']; go_big_quiet_on) | go_big_quiet_call ((go_at_call 18; exact Calls.below_of (CL1.out _)))) | fail)
                  iterate 8 (first | go_big_quiet_skip | (go_big_quiet_want; go_big_quiet_op; first | go_big_quiet_on | (simp only [z0.out, Result.andThen, true_and, forall_const, exists_eq_left']; go_big_quiet_on) | go_big_quiet_call ((go_at_call 18; exact Calls.below_of (CL2.out _)))) | fail)
                  refine wpQuiet_nil ?_
                  rintro w9 ⟨⟨_, hb9⟩, rfl⟩
                  have HX : Hid (S2 w1 K w9 sa ma C 0 k sb mb C 0 k ∧ Kp K w3 w9) := Lib.hid ⟨HS0.out.1.below hb9, HS0.out.2.tr (Kp.of hb9)⟩
                  clear hb9 HS0 CL1 CL2 z0
                  go_wp2_with fail
                  go_roundw
                  case rel => exact ⟨j + 1, by omega, by go_num, HX⟩
                  case measure => simp [intOf]; omega
            · obtain rfl : j = k := by omega
              have g3 : decide ((j : Int) < (j : Int)) = false := decide_eq_false (by omega)
              go_wp2_with fail
              refine (CF.out _).mono ?_
              rintro e w8 ⟨rfl, hb8⟩
              have HX : Hid (Below w.heap.size w w8) := Lib.hid (by
                have h := HS.out.1.bel
                exact H1.out.trans ((h.trans (hb8.mono h.size)).mono H1.out.size))
              clear hb8
              go_wp2_with fail
              go_ret
              exact ⟨rfl, HX.out⟩
end Go.Proofs.Ytdlacjdddjebgaa
