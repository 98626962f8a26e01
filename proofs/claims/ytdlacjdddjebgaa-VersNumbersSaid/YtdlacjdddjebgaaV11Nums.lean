/- VersNumbers: the walk. -/
import Derived.Test.YtdlacjdddjebgaaV11NumM
import Derived.Test.YtdlacjdddjebgaaV11First
import Derived.Deep.CutRange
namespace Go.Proofs.Ytdlacjdddjebgaa
open Go.RowKit

theorem getM_one {X W : World} {s mb : Nat} {l : List VerVI} {cnt low : Int} {k : Nat} (h : StCVI X W s mb (oneVI [110] l) cnt low k) (hk : k ≤ 10000) (at1 : Int) :
    Calls Try.prog 39 #[.pointer (some ⟨s, 0, none⟩), str [109], .int .i64 at1] W fun e W' => e = .returned (.tuple #[.int .i64 0, .bool false]) ∧ StCVI X W' s mb (oneVI [110] l) cnt low k := by
  have hh := h
  obtain ⟨t, S, h1, h2, h3⟩ := h
  have e1 : verSVI [109] S = [] := by
    unfold oneVI at h2
    split at h2
    · obtain rfl := chsVI_nil h2; rfl
    · obtain ⟨v, rfl⟩ := chsVI_single h2
      unfold verSVI getB
      rw [if_pos (by decide)]; rfl
  have h4 := getVI_st h1 (by omega) [109] at1
  rw [e1] at h4
  exact h4.mono (by rintro e W' ⟨rfl, hb⟩; exact ⟨rfl, hh.below hb⟩)
theorem count_one {X W : World} {s mb : Nat} {C : List (List UInt8 × List VerVI)} {cnt low : Int} {k : Nat} (h : StCVI X W s mb C cnt low k) :
    Calls Try.prog 36 #[.pointer (some ⟨s, 0, none⟩)] W fun e W' => e = .returned (.int .i64 cnt) ∧ W = W' := by
  obtain ⟨t, S, h1, _, _⟩ := h
  exact countVI_st h1
theorem last_one {X W : World} {s mb : Nat} {l : List VerVI} {cnt low : Int} {k : Nat} (h : StCVI X W s mb (oneVI [110] l) cnt low k) (hk : k ≤ 10000) :
    Calls Try.prog 37 #[.pointer (some ⟨s, 0, none⟩), str [110]] W fun e W' => e = .returned (.int .i64 (lastTVI l)) ∧ W = W' := by
  obtain ⟨t, S, h1, h2, _⟩ := h
  have := lastVI_any h1 (by omega) [110]
  rw [(oneVI_ver h2).1] at this
  exact this
theorem pruneN_one {X W : World} {s mb : Nat} {C : List (List UInt8 × List VerVI)} {cnt low : Int} {k : Nat} (h : StCVI X W s mb C cnt low k) (lw : Int) (hl : lw ≤ low ∨ 1099511627776 < lw) :
    Calls Try.prog 38 #[.pointer (some ⟨s, 0, none⟩), .int .i64 lw] W fun e W' => e = .returned (.int .i64 0) ∧ StCVI X W' s mb C cnt low k := by
  have hh := h
  obtain ⟨t, S, h1, _, _⟩ := h
  exact (pruneNVI_any h1 lw hl).mono (by rintro e W' ⟨rfl, hb⟩; exact ⟨rfl, hh.below hb⟩)
/-- Behind the Prune: d are dropped, a0 is the first time that is asked for. -/
def Prd (w1 W : World) (s mb : Nat) (l : List Int) (d : Nat) (a0 : Int) : Prop :=
  d ≤ l.length ∧ 1 ≤ a0 ∧ ((l.length : Int) < a0 ∨ (d : Int) < a0) ∧ ∃ low k, k ≤ 10000 ∧ StCVI w1 W s mb (oneVI [110] ((numV l).drop d)) ((l.length : Int) - (d : Int)) low k
set_option maxRecDepth 100000 in
set_option maxHeartbeats 4000000 in
theorem numbers_walk (v : Value) (l : List Int) (low : Int) (w : World) (hv : RdV w v (l.map (Value.int .i64))) (_ : ∀ x ∈ l, -9223372036854775808 ≤ x ∧ x ≤ 9223372036854775807) (hlw : -9223372036854775808 ≤ low ∧ low ≤ 9223372036854775807) :
    Calls Try.prog 5 #[v, .int .i64 low] w fun e w' => e = .returned (.bool true) ∧ Below w.heap.size w w' := by
  obtain ⟨av, cv, rfl, hmx, hcl⟩ := hv
  rw [List.length_map] at hmx
  have HV : Hid (∀ i (h : i < l.length), ∃ b off, av = some ⟨b, off, none⟩ ∧ w.cell? ⟨b, off + i, none⟩ = some (.int .i64 l[i])) := Lib.hid (fun i h => by
    obtain ⟨b, off, ha, hc⟩ := hcl (by intro e; rw [List.map_eq_nil_iff] at e; rw [e] at h; simp at h)
    exact ⟨b, off, ha, by have := hc i (by simpa using h); simpa using this⟩)
  rw [List.length_map]
  have CF := Lib.hid v11first_any
  have CN := Lib.hid (fun W => newVI_one W [110])
  clear hcl
  go_enter Try.func5, Try.ntmps5
  go_wp2_with fail
  refine (CF.out _).mono ?_
  rintro e w1 ⟨rfl, hb1⟩
  have H1 := Lib.hid hb1
  clear hb1
  go_wp2_with fail
  refine (CN.out _).mono ?_
  rintro e w2 ⟨s, mb, rfl, h2⟩
  have H2 := Lib.hid h2
  clear h2 CN
  by_cases h200 : 200 < l.length
  · as_aux_lemma =>
      have g5 : (200 : Int) < (l.length : Int) := by omega
      go_wp2_with fail
      refine (CF.out _).mono ?_
      rintro e w3 ⟨rfl, hb3⟩
      have HX : Hid (Below w.heap.size w w3) := Lib.hid (by obtain ⟨_, _, _, _, hb⟩ := H2.out; exact (H1.out.trans (hb.mono H1.out.size)).trans (hb3.mono (by have := H1.out.size; have := hb.size; omega)))
      clear hb3
      go_wp2_with fail
      go_ret
      exact ⟨rfl, HX.out⟩
  have g5 : ¬ (200 : Int) < (l.length : Int) := by omega
  have HS0 : Hid (StCVI w1 w2 s mb (oneVI [110] (numV (l.take 0))) ((0 : Nat) : Int) 0 0) := Lib.hid (by simpa [numV, numA] using H2.out)
  clear H2
  go_wp2_with fail
  go_loopw [6] (fun i wr => ∃ k : Nat, k ≤ l.length ∧ i = .int .i64 (k : Int) ∧ Hid (StCVI w1 wr s mb (oneVI [110] (numV (l.take k))) (k : Int) 0 k)) (fun i _ => l.length - (intOf i).toNat)
  case atStart => exact ⟨0, Nat.zero_le _, rfl, HS0⟩
  case round =>
    clear HS0
    obtain ⟨k, hk, rfl, HW⟩ := hrel
    by_cases hlt : k < l.length
    · as_aux_lemma =>
      have g3 : (k : Int) < (l.length : Int) := by omega
      have g4 : (0 : Int) ≤ (k : Int) := by omega
      obtain ⟨bA, oA, rfl, c0⟩ := HV.out k hlt
      have hlA := World.block_lt_of_cell? w _ c0
      have HN := Lib.hid (numV_take hlt)
      obtain ⟨x, hx⟩ : ∃ x, x = l[k] := ⟨_, rfl⟩
      rw [← hx] at c0 HN
      have hbw : Below w.heap.size w wr := by obtain ⟨_, _, _, _, hb⟩ := HW.out; exact H1.out.trans (hb.mono H1.out.size)
      have d0 : wr.cell? ⟨bA, oA + k, none⟩ = some (.int .i64 x) := (hbw.cell (p := ⟨bA, oA + k, none⟩) hlA).trans c0
      have htl : (l.take k).length = k := by rw [List.length_take]; omega
      have htl2 : (l.take (k + 1)).length = k + 1 := by rw [List.length_take]; omega
      have C1 := Lib.hid (putVI_one HW.out (by omega) (by omega) ((k : Int) + 1) x (add_ok (l.take k) x k htl.symm (by omega)))
      rw [← HN.out] at C1
      have C2 := Lib.hid (fun W (h : StCVI w1 W s mb (oneVI [110] (numV (l.take (k + 1)))) ((k : Int) + 1) 0 (k + 1)) => clashVI_one h (by omega) (by omega) ((k : Int) + 1) 7 12 (add_clash (l.take (k + 1)) 7 k htl2.symm (by omega)) (by decide))
      have tw : IntKind.i64.wrap ((k : Int) + 1) = (k : Int) + 1 := IntWalk.i64_in _ (by omega)
      clear c0 hlA hx hbw htl htl2 HV
      go_wp2_with fail
      refine C1.out.mono ?_
      rintro e w3 ⟨rfl, h3⟩
      have H3 := Lib.hid h3
      clear h3 C1
      go_wp2_with fail
      refine (C2.out _ H3.out).mono ?_
      rintro e w4 ⟨rfl, h4⟩
      have H4 : Hid (StCVI w1 w4 s mb (oneVI [110] (numV (l.take (k + 1)))) ((k + 1 : Nat) : Int) 0 (k + 1)) := Lib.hid (by simpa using h4)
      clear h4 C2 H3
      go_wp2_with fail
      go_roundw
      case rel => exact ⟨k + 1, by omega, by go_num, H4⟩
      case measure => simp [intOf]; omega
    · as_aux_lemma =>
      obtain rfl : k = l.length := by omega
      have g3 : ¬ (l.length : Int) < (l.length : Int) := by omega
      have hW := HW.out
      rw [List.take_length] at hW
      have HS := Lib.hid hW
      have CC := Lib.hid (count_one hW)
      have CL := Lib.hid (last_one hW (by omega))
      rw [numV_last] at CL
      clear hW HW
      go_wp2_with fail
      refine CC.out.mono ?_
      rintro e w' ⟨rfl, rfl⟩
      go_wp2_with fail
      refine CL.out.mono ?_
      rintro e w' ⟨rfl, rfl⟩
      clear CC CL
      -- WAYS
      by_cases hl0 : low ≤ 0
      · as_aux_lemma =>
        obtain ⟨d, hd0⟩ : ∃ d : Nat, d = 0 := ⟨0, rfl⟩
        have CP := Lib.hid (pruneN_one HS.out low (.inl hl0))
        have hdI : (0 : Int) = (d : Int) := by omega
        have HD := Lib.hid hd0
        rw [hdI] at CP
        have g6 : decide ((0 : Int) < low) = false := decide_eq_false (by omega)
        have g9 : low < 1 := by omega
        have gd : ((d : Int) == 0) = true := by simp; omega
        have gd2 : decide ((d : Int) = 0) = true := by simp; omega
        clear hd0 hdI
        go_wp2_with fail
        refine CP.out.mono ?_
        rintro e w5 ⟨rfl, h5⟩
        have HP : Hid (Prd w1 w5 s mb l d 1) := Lib.hid ⟨by have := HD.out; omega, Int.le_refl _, .inr (by have := HD.out; omega), (d : Int), l.length, by omega, by have e := HD.out; subst e; simpa using h5⟩
        clear h5 CP HS

        go_wp2_with fail
        go_loopw [9] (fun i wr => ∃ at1 : Int, i = .int .i64 at1 ∧ Hid (Prd w1 wr s mb l d at1)) (fun i _ => ((l.length : Int) + 1 - intOf i).toNat)
        case atStart => exact ⟨_, rfl, HP⟩
        case round =>
          clear HP
          obtain ⟨at1, rfl, HR⟩ := hrel
          by_cases hle : at1 ≤ (l.length : Int)
          · as_aux_lemma =>
            obtain ⟨m, rfl⟩ : ∃ m : Nat, at1 = (m : Int) + 1 := ⟨(at1 - 1).toNat, by have := HR.out.2.1; omega⟩
            have hml : m < l.length := by omega
            have hdm : d ≤ m := by have := HR.out.2.2.1; omega
            obtain ⟨bA, oA, rfl, c0⟩ := HV.out m hml
            have hlA := World.block_lt_of_cell? w _ c0
            have hsn : seenVI ((numV l).drop d) ((m : Int) + 1) = some l[m] := by
              have := seen_drop l d (m + 1) (by omega) (by omega)
              simpa using this
            obtain ⟨x, hx⟩ : ∃ x, x = l[m] := ⟨_, rfl⟩
            rw [← hx] at c0 hsn
            obtain ⟨_, _, _, lo, kk, hkk, hst⟩ := HR.out
            have C := Lib.hid (getVI_one hst hkk ((m : Int) + 1) (some x) hsn)
            have HBW : Hid (∀ W, StCVI w1 W s mb (oneVI [110] ((numV l).drop d)) ((l.length : Int) - (d : Int)) lo kk → Below w.heap.size w W) := Lib.hid (fun W h => by obtain ⟨_, _, _, _, hb⟩ := h; exact H1.out.trans (hb.mono H1.out.size))
            have HCl : Hid (∀ W, Below w.heap.size w W → W.cell? ⟨bA, oA + m, none⟩ = some (.int .i64 x)) := Lib.hid (fun W h => (h.cell (p := ⟨bA, oA + m, none⟩) hlA).trans c0)
            have HK := Lib.hid hkk
            have g6 : (m : Int) + 1 ≤ (l.length : Int) := hle
            have g7 : (m : Int) < (l.length : Int) := by omega
            have g8 : (0 : Int) ≤ (m : Int) := by omega
            clear hst hsn hx c0 hlA HR hkk
            go_wp2_with fail
            refine C.out.mono ?_
            rintro e w6 ⟨rfl, h6⟩
            have d0 := HCl.out w6 (HBW.out w6 h6)
            have HP2 : Hid (Prd w1 w6 s mb l d ((m : Int) + 1 + 1)) := Lib.hid ⟨by omega, by omega, by omega, lo, kk, HK.out, h6⟩
            clear h6 C HCl HBW
            unfold seenEVI
            go_wp2_with fail
            go_roundw
            case rel => exact ⟨(m : Int) + 1 + 1, by go_num, HP2⟩
            case measure => simp [intOf]; omega
          · as_aux_lemma =>
            have g6 : ¬ at1 ≤ (l.length : Int) := hle
            have hd := HR.out.1
            obtain ⟨_, _, _, lo, kk, hkk, hst⟩ := HR.out
            have CM := Lib.hid (getM_one hst hkk (l.length : Int))
            have HK := Lib.hid hkk
            clear hst HR hkk HV
            go_wp2_with fail
            refine CM.out.mono ?_
            rintro e w6 ⟨rfl, h6⟩
            have H6 := Lib.hid h6
            clear h6 CM
            go_wp2_with fail
            refine (CF.out _).mono ?_
            rintro e w7 ⟨rfl, h7⟩
            have H7 := Lib.hid (H6.out.below h7)
            have CC := Lib.hid (count_one H7.out)
            have HX : Hid (Below w.heap.size w w7) := Lib.hid (by obtain ⟨_, _, _, _, hb⟩ := H7.out; exact H1.out.trans (hb.mono H1.out.size))
            clear h7 H6 H7
            go_wp2_with fail
            refine CC.out.mono ?_
            rintro e w' ⟨rfl, rfl⟩
            go_wp2_with fail
            go_ret
            exact ⟨rfl, HX.out⟩
      by_cases hlM : 1099511627776 < low
      · as_aux_lemma =>
        obtain ⟨d, hd0⟩ : ∃ d : Nat, d = 0 := ⟨0, rfl⟩
        have CP := Lib.hid (pruneN_one HS.out low (.inr hlM))
        have hdI : (0 : Int) = (d : Int) := by omega
        have HD := Lib.hid hd0
        rw [hdI] at CP
        have g6 : decide ((0 : Int) < low) = true := decide_eq_true (by omega)
        have g7 : decide (low ≤ 1099511627776) = false := decide_eq_false (by omega)
        have g9 : ¬ low < 1 := by omega
        have gd : ((d : Int) == 0) = true := by simp; omega
        have gd2 : decide ((d : Int) = 0) = true := by simp; omega
        clear hd0 hdI
        go_wp2_with fail
        refine CP.out.mono ?_
        rintro e w5 ⟨rfl, h5⟩
        have HP : Hid (Prd w1 w5 s mb l d low) := Lib.hid ⟨by have := HD.out; omega, by omega, .inr (by have := HD.out; omega), (d : Int), l.length, by omega, by have e := HD.out; subst e; simpa using h5⟩
        clear h5 CP HS

        go_wp2_with fail
        go_loopw [9] (fun i wr => ∃ at1 : Int, i = .int .i64 at1 ∧ Hid (Prd w1 wr s mb l d at1)) (fun i _ => ((l.length : Int) + 1 - intOf i).toNat)
        case atStart => exact ⟨_, rfl, HP⟩
        case round =>
          clear HP
          obtain ⟨at1, rfl, HR⟩ := hrel
          by_cases hle : at1 ≤ (l.length : Int)
          · as_aux_lemma =>
            obtain ⟨m, rfl⟩ : ∃ m : Nat, at1 = (m : Int) + 1 := ⟨(at1 - 1).toNat, by have := HR.out.2.1; omega⟩
            have hml : m < l.length := by omega
            have hdm : d ≤ m := by have := HR.out.2.2.1; omega
            obtain ⟨bA, oA, rfl, c0⟩ := HV.out m hml
            have hlA := World.block_lt_of_cell? w _ c0
            have hsn : seenVI ((numV l).drop d) ((m : Int) + 1) = some l[m] := by
              have := seen_drop l d (m + 1) (by omega) (by omega)
              simpa using this
            obtain ⟨x, hx⟩ : ∃ x, x = l[m] := ⟨_, rfl⟩
            rw [← hx] at c0 hsn
            obtain ⟨_, _, _, lo, kk, hkk, hst⟩ := HR.out
            have C := Lib.hid (getVI_one hst hkk ((m : Int) + 1) (some x) hsn)
            have HBW : Hid (∀ W, StCVI w1 W s mb (oneVI [110] ((numV l).drop d)) ((l.length : Int) - (d : Int)) lo kk → Below w.heap.size w W) := Lib.hid (fun W h => by obtain ⟨_, _, _, _, hb⟩ := h; exact H1.out.trans (hb.mono H1.out.size))
            have HCl : Hid (∀ W, Below w.heap.size w W → W.cell? ⟨bA, oA + m, none⟩ = some (.int .i64 x)) := Lib.hid (fun W h => (h.cell (p := ⟨bA, oA + m, none⟩) hlA).trans c0)
            have HK := Lib.hid hkk
            have g6 : (m : Int) + 1 ≤ (l.length : Int) := hle
            have g7 : (m : Int) < (l.length : Int) := by omega
            have g8 : (0 : Int) ≤ (m : Int) := by omega
            clear hst hsn hx c0 hlA HR hkk
            go_wp2_with fail
            refine C.out.mono ?_
            rintro e w6 ⟨rfl, h6⟩
            have d0 := HCl.out w6 (HBW.out w6 h6)
            have HP2 : Hid (Prd w1 w6 s mb l d ((m : Int) + 1 + 1)) := Lib.hid ⟨by omega, by omega, by omega, lo, kk, HK.out, h6⟩
            clear h6 C HCl HBW
            unfold seenEVI
            go_wp2_with fail
            go_roundw
            case rel => exact ⟨(m : Int) + 1 + 1, by go_num, HP2⟩
            case measure => simp [intOf]; omega
          · as_aux_lemma =>
            have g6 : ¬ at1 ≤ (l.length : Int) := hle
            have hd := HR.out.1
            obtain ⟨_, _, _, lo, kk, hkk, hst⟩ := HR.out
            have CM := Lib.hid (getM_one hst hkk (l.length : Int))
            have HK := Lib.hid hkk
            clear hst HR hkk HV
            go_wp2_with fail
            refine CM.out.mono ?_
            rintro e w6 ⟨rfl, h6⟩
            have H6 := Lib.hid h6
            clear h6 CM
            go_wp2_with fail
            refine (CF.out _).mono ?_
            rintro e w7 ⟨rfl, h7⟩
            have H7 := Lib.hid (H6.out.below h7)
            have CC := Lib.hid (count_one H7.out)
            have HX : Hid (Below w.heap.size w w7) := Lib.hid (by obtain ⟨_, _, _, _, hb⟩ := H7.out; exact H1.out.trans (hb.mono H1.out.size))
            clear h7 H6 H7
            go_wp2_with fail
            refine CC.out.mono ?_
            rintro e w' ⟨rfl, rfl⟩
            go_wp2_with fail
            go_ret
            exact ⟨rfl, HX.out⟩
      by_cases hlen : low ≤ (l.length : Int)
      · as_aux_lemma =>
        obtain ⟨d, rfl⟩ : ∃ d : Nat, low = (d : Int) + 1 := ⟨(low - 1).toNat, by omega⟩
        have hP := pruneVI_one HS.out (by omega) (by omega) ((d : Int) + 1) (by omega) (by omega)
        rw [drop_num l ((d : Int) + 1) (by omega) d (by omega)] at hP
        have CP := Lib.hid hP
        clear hP
        have g6 : decide ((0 : Int) < (d : Int) + 1) = true := decide_eq_true (by omega)
        have g7 : decide ((d : Int) + 1 ≤ 1099511627776) = true := decide_eq_true (by omega)
        have g9 : ¬ (d : Int) + 1 < 1 := by omega
        have g10 : ¬ (l.length : Int) < (d : Int) + 1 := by omega
        have g11 : (0 : Int) ≤ (d : Int) := by omega
        go_wp2_with fail
        refine CP.out.mono ?_
        rintro e w5 ⟨rfl, h5⟩
        have HP : Hid (Prd w1 w5 s mb l d ((d : Int) + 1)) := Lib.hid ⟨by omega, by omega, .inr (by omega), _, l.length + l.length, by omega, h5⟩
        clear h5 CP HS

        go_wp2_with fail
        go_loopw [9] (fun i wr => ∃ at1 : Int, i = .int .i64 at1 ∧ Hid (Prd w1 wr s mb l d at1)) (fun i _ => ((l.length : Int) + 1 - intOf i).toNat)
        case atStart => exact ⟨_, rfl, HP⟩
        case round =>
          clear HP
          obtain ⟨at1, rfl, HR⟩ := hrel
          by_cases hle : at1 ≤ (l.length : Int)
          · as_aux_lemma =>
            obtain ⟨m, rfl⟩ : ∃ m : Nat, at1 = (m : Int) + 1 := ⟨(at1 - 1).toNat, by have := HR.out.2.1; omega⟩
            have hml : m < l.length := by omega
            have hdm : d ≤ m := by have := HR.out.2.2.1; omega
            obtain ⟨bA, oA, rfl, c0⟩ := HV.out m hml
            have hlA := World.block_lt_of_cell? w _ c0
            have hsn : seenVI ((numV l).drop d) ((m : Int) + 1) = some l[m] := by
              have := seen_drop l d (m + 1) (by omega) (by omega)
              simpa using this
            obtain ⟨x, hx⟩ : ∃ x, x = l[m] := ⟨_, rfl⟩
            rw [← hx] at c0 hsn
            obtain ⟨_, _, _, lo, kk, hkk, hst⟩ := HR.out
            have C := Lib.hid (getVI_one hst hkk ((m : Int) + 1) (some x) hsn)
            have HBW : Hid (∀ W, StCVI w1 W s mb (oneVI [110] ((numV l).drop d)) ((l.length : Int) - (d : Int)) lo kk → Below w.heap.size w W) := Lib.hid (fun W h => by obtain ⟨_, _, _, _, hb⟩ := h; exact H1.out.trans (hb.mono H1.out.size))
            have HCl : Hid (∀ W, Below w.heap.size w W → W.cell? ⟨bA, oA + m, none⟩ = some (.int .i64 x)) := Lib.hid (fun W h => (h.cell (p := ⟨bA, oA + m, none⟩) hlA).trans c0)
            have HK := Lib.hid hkk
            have g6 : (m : Int) + 1 ≤ (l.length : Int) := hle
            have g7 : (m : Int) < (l.length : Int) := by omega
            have g8 : (0 : Int) ≤ (m : Int) := by omega
            clear hst hsn hx c0 hlA HR hkk
            go_wp2_with fail
            refine C.out.mono ?_
            rintro e w6 ⟨rfl, h6⟩
            have d0 := HCl.out w6 (HBW.out w6 h6)
            have HP2 : Hid (Prd w1 w6 s mb l d ((m : Int) + 1 + 1)) := Lib.hid ⟨by omega, by omega, by omega, lo, kk, HK.out, h6⟩
            clear h6 C HCl HBW
            unfold seenEVI
            go_wp2_with fail
            go_roundw
            case rel => exact ⟨(m : Int) + 1 + 1, by go_num, HP2⟩
            case measure => simp [intOf]; omega
          · as_aux_lemma =>
            have g6 : ¬ at1 ≤ (l.length : Int) := hle
            have hd := HR.out.1
            obtain ⟨_, _, _, lo, kk, hkk, hst⟩ := HR.out
            have CM := Lib.hid (getM_one hst hkk (l.length : Int))
            have HK := Lib.hid hkk
            clear hst HR hkk HV
            go_wp2_with fail
            refine CM.out.mono ?_
            rintro e w6 ⟨rfl, h6⟩
            have H6 := Lib.hid h6
            clear h6 CM
            go_wp2_with fail
            refine (CF.out _).mono ?_
            rintro e w7 ⟨rfl, h7⟩
            have H7 := Lib.hid (H6.out.below h7)
            have CC := Lib.hid (count_one H7.out)
            have HX : Hid (Below w.heap.size w w7) := Lib.hid (by obtain ⟨_, _, _, _, hb⟩ := H7.out; exact H1.out.trans (hb.mono H1.out.size))
            clear h7 H6 H7
            go_wp2_with fail
            refine CC.out.mono ?_
            rintro e w' ⟨rfl, rfl⟩
            go_wp2_with fail
            go_ret
            exact ⟨rfl, HX.out⟩
      by_cases hl1 : l.length = 0
      · as_aux_lemma =>
        obtain rfl := List.eq_nil_of_length_eq_zero hl1
        obtain ⟨d, hd0⟩ : ∃ d : Nat, d = 0 := ⟨0, rfl⟩
        have hP := pruneVI_one HS.out (by simp) (by simp) low (by omega) (by omega)
        rw [drop_num [] low (by omega) d (by simp; omega)] at hP
        have CP := Lib.hid hP
        clear hP
        have HD := Lib.hid hd0
        have g6 : decide ((0 : Int) < low) = true := decide_eq_true (by omega)
        have g7 : decide (low ≤ 1099511627776) = true := decide_eq_true (by omega)
        have g9 : ¬ low < 1 := by omega
        have g10 : (0 : Int) < low := by omega
        have gd : ((d : Int) == 0) = true := by simp; omega
        have gd2 : decide ((d : Int) = 0) = true := by simp; omega
        clear hd0
        go_wp2_with fail
        refine CP.out.mono ?_
        rintro e w5 ⟨rfl, h5⟩
        have HP : Hid (Prd w1 w5 s mb [] d low) := Lib.hid ⟨by have := HD.out; omega, by omega, .inl (by simp; omega), _, 0, by omega, h5⟩
        clear h5 CP HS

        go_wp2_with fail
        go_loopw [9] (fun i wr => ∃ at1 : Int, i = .int .i64 at1 ∧ Hid (Prd w1 wr s mb [] d at1)) (fun i _ => ((([] : List Int).length : Int) + 1 - intOf i).toNat)
        case atStart => exact ⟨_, rfl, HP⟩
        case round =>
          clear HP
          obtain ⟨at1, rfl, HR⟩ := hrel
          by_cases hle : at1 ≤ (([] : List Int).length : Int)
          · exfalso
            have := HR.out.2.1
            simp at hle
            omega
          · as_aux_lemma =>
            have g6 : ¬ at1 ≤ (([] : List Int).length : Int) := hle
            have hd := HR.out.1
            obtain ⟨_, _, _, lo, kk, hkk, hst⟩ := HR.out
            have CM := Lib.hid (getM_one hst hkk (([] : List Int).length : Int))
            have HK := Lib.hid hkk
            clear hst HR hkk HV
            go_wp2_with fail
            refine CM.out.mono ?_
            rintro e w6 ⟨rfl, h6⟩
            have H6 := Lib.hid h6
            clear h6 CM
            go_wp2_with fail
            refine (CF.out _).mono ?_
            rintro e w7 ⟨rfl, h7⟩
            have H7 := Lib.hid (H6.out.below h7)
            have CC := Lib.hid (count_one H7.out)
            have HX : Hid (Below w.heap.size w w7) := Lib.hid (by obtain ⟨_, _, _, _, hb⟩ := H7.out; exact H1.out.trans (hb.mono H1.out.size))
            clear h7 H6 H7
            go_wp2_with fail
            refine CC.out.mono ?_
            rintro e w' ⟨rfl, rfl⟩
            go_wp2_with fail
            go_ret
            exact ⟨rfl, HX.out⟩
      · as_aux_lemma =>
        obtain ⟨d, hd0⟩ : ∃ d : Nat, l.length = d + 1 := ⟨l.length - 1, by omega⟩
        have hP := pruneVI_one HS.out (by omega) (by omega) low (by omega) (by omega)
        rw [drop_num l low (by omega) d (by omega)] at hP
        have CP := Lib.hid hP
        clear hP
        have hdI : (l.length : Int) - 1 = (d : Int) := by omega
        have g6 : decide ((0 : Int) < low) = true := decide_eq_true (by omega)
        have g7 : decide (low ≤ 1099511627776) = true := decide_eq_true (by omega)
        have g9 : ¬ low < 1 := by omega
        have g10 : (l.length : Int) < low := by omega
        have g11 : (0 : Int) ≤ (d : Int) := by omega
        have HDl := Lib.hid hd0
        clear hd0
        go_wp2_with fail
        refine CP.out.mono ?_
        rintro e w5 ⟨rfl, h5⟩
        have HP : Hid (Prd w1 w5 s mb l d low) := Lib.hid ⟨by have := HDl.out; omega, by omega, .inl (by omega), _, l.length + l.length, by omega, h5⟩
        clear h5 CP HS

        go_wp2_with fail
        go_loopw [9] (fun i wr => ∃ at1 : Int, i = .int .i64 at1 ∧ Hid (Prd w1 wr s mb l d at1)) (fun i _ => ((l.length : Int) + 1 - intOf i).toNat)
        case atStart => exact ⟨_, rfl, HP⟩
        case round =>
          clear HP
          obtain ⟨at1, rfl, HR⟩ := hrel
          by_cases hle : at1 ≤ (l.length : Int)
          · as_aux_lemma =>
            obtain ⟨m, rfl⟩ : ∃ m : Nat, at1 = (m : Int) + 1 := ⟨(at1 - 1).toNat, by have := HR.out.2.1; omega⟩
            have hml : m < l.length := by omega
            have hdm : d ≤ m := by have := HR.out.2.2.1; omega
            obtain ⟨bA, oA, rfl, c0⟩ := HV.out m hml
            have hlA := World.block_lt_of_cell? w _ c0
            have hsn : seenVI ((numV l).drop d) ((m : Int) + 1) = some l[m] := by
              have := seen_drop l d (m + 1) (by omega) (by omega)
              simpa using this
            obtain ⟨x, hx⟩ : ∃ x, x = l[m] := ⟨_, rfl⟩
            rw [← hx] at c0 hsn
            obtain ⟨_, _, _, lo, kk, hkk, hst⟩ := HR.out
            have C := Lib.hid (getVI_one hst hkk ((m : Int) + 1) (some x) hsn)
            have HBW : Hid (∀ W, StCVI w1 W s mb (oneVI [110] ((numV l).drop d)) ((l.length : Int) - (d : Int)) lo kk → Below w.heap.size w W) := Lib.hid (fun W h => by obtain ⟨_, _, _, _, hb⟩ := h; exact H1.out.trans (hb.mono H1.out.size))
            have HCl : Hid (∀ W, Below w.heap.size w W → W.cell? ⟨bA, oA + m, none⟩ = some (.int .i64 x)) := Lib.hid (fun W h => (h.cell (p := ⟨bA, oA + m, none⟩) hlA).trans c0)
            have HK := Lib.hid hkk
            have g6 : (m : Int) + 1 ≤ (l.length : Int) := hle
            have g7 : (m : Int) < (l.length : Int) := by omega
            have g8 : (0 : Int) ≤ (m : Int) := by omega
            clear hst hsn hx c0 hlA HR hkk
            go_wp2_with fail
            refine C.out.mono ?_
            rintro e w6 ⟨rfl, h6⟩
            have d0 := HCl.out w6 (HBW.out w6 h6)
            have HP2 : Hid (Prd w1 w6 s mb l d ((m : Int) + 1 + 1)) := Lib.hid ⟨by omega, by omega, by omega, lo, kk, HK.out, h6⟩
            clear h6 C HCl HBW
            unfold seenEVI
            go_wp2_with fail
            go_roundw
            case rel => exact ⟨(m : Int) + 1 + 1, by go_num, HP2⟩
            case measure => simp [intOf]; omega
          · as_aux_lemma =>
            have g6 : ¬ at1 ≤ (l.length : Int) := hle
            have hd := HR.out.1
            obtain ⟨_, _, _, lo, kk, hkk, hst⟩ := HR.out
            have CM := Lib.hid (getM_one hst hkk (l.length : Int))
            have HK := Lib.hid hkk
            clear hst HR hkk HV
            go_wp2_with fail
            refine CM.out.mono ?_
            rintro e w6 ⟨rfl, h6⟩
            have H6 := Lib.hid h6
            clear h6 CM
            go_wp2_with fail
            refine (CF.out _).mono ?_
            rintro e w7 ⟨rfl, h7⟩
            have H7 := Lib.hid (H6.out.below h7)
            have CC := Lib.hid (count_one H7.out)
            have HX : Hid (Below w.heap.size w w7) := Lib.hid (by obtain ⟨_, _, _, _, hb⟩ := H7.out; exact H1.out.trans (hb.mono H1.out.size))
            clear h7 H6 H7
            go_wp2_with fail
            refine CC.out.mono ?_
            rintro e w' ⟨rfl, rfl⟩
            go_wp2_with fail
            go_ret
            exact ⟨rfl, HX.out⟩
end Go.Proofs.Ytdlacjdddjebgaa
