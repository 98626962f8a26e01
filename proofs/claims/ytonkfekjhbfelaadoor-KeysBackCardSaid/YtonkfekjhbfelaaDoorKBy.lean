/- KeysBack: the walk, where nothing is too long. -/
import Derived.Test.YtonkfekjhbfelaaDoorKBk
namespace Go.Proofs.YtonkfekjhbfelaaDoor
open Go.RowKit

theorem key_ways (pk : Int) (pu pf pn pg : List UInt8) (pi : Int) (K : List UInt8) (hK : K = keyL pk pu pf pn pg pi) :
    ∃ (X : Pa) (b : Bool), (∀ W, Calls Tryd.prog 7 #[str K] W fun e w' => e = .returned (.tuple #[pak X.k X.u X.f X.n X.g X.i, .bool b]) ∧ Below W.heap.size W w') ∧
      ((b = false ∧ (K == ([] : List UInt8)) = true) ∨ (b = true ∧ (K == ([] : List UInt8)) = false ∧ X.k = pk ∧
      (∀ W, Calls Tryd.prog 9 #[pak X.k X.u X.f X.n X.g X.i] W fun e w' => e = .returned (str K) ∧ Below W.heap.size W w'))) := by
  have hl := keyL_len pk pu pf pn pg pi
  by_cases h : K = []
  · refine ⟨pa0, false, fun W => parse_bad K W (by rw [hK]; omega) fun hk => hk.1 h, .inl ⟨rfl, by rw [h]; rfl⟩⟩
  · have hok : okF K := by rw [hK]; exact (okF_key _ _ _ _ _ _).2 (by rw [← hK]; exact h)
    obtain ⟨p, e1, e2, e3⟩ := key_apart pk pu pf pn pg pi (by rw [← hK]; exact h)
    rw [← hK] at e1 e3
    have hlo : LenOk p := by rw [← e1]; exact lenOk_parts K (by rw [hK]; omega)
    refine ⟨p, true, fun W => parse_ok K p W (by rw [hK]; omega) hok e1, .inr ⟨rfl, ne_beq h, e2, fun W => ?_⟩⟩
    have := keyP_any p W hlo
    rw [e3] at this
    exact this
theorem text_ways (s : List UInt8) (hl : s.length ≤ 100000) :
    ∃ (X : Pa) (b : Bool), (∀ W, Calls Tryd.prog 7 #[str s] W fun e w' => e = .returned (.tuple #[pak X.k X.u X.f X.n X.g X.i, .bool b]) ∧ Below W.heap.size W w') ∧
      ((b = false ∧ X = pa0) ∨ (b = true ∧
      (∀ W, Calls Tryd.prog 9 #[pak X.k X.u X.f X.n X.g X.i] W fun e w' => e = .returned (str s) ∧ Below W.heap.size W w'))) := by
  by_cases h : okF s
  · refine ⟨partsF (splitL s), true, fun W => parse_ok s _ W hl h rfl, .inr ⟨rfl, fun W => ?_⟩⟩
    have := keyP_any (partsF (splitL s)) W (lenOk_parts s hl)
    rw [h.2] at this
    exact this
  · exact ⟨pa0, false, fun W => parse_bad s W hl h, .inl ⟨rfl, rfl⟩⟩
/-- What lies on: the box. -/
def BK (w wr : World) (pk : Int) (pu pf pn pg : List UInt8) (pi : Int) : Prop := PK wr w.heap.size pk pu pf pn pg pi ∧ Below w.heap.size w wr
theorem BK.up {w W W' : World} {pk pi : Int} {pu pf pn pg : List UInt8} (h : BK w W pk pu pf pn pg pi) (hb : Below W.heap.size W W') : BK w W' pk pu pf pn pg pi := ⟨pk_up h.1 hb, h.2.trans (hb.mono h.2.size)⟩
theorem BK.drew {w W : World} {pk pi : Int} {pu pf pn pg : List UInt8} (h : BK w W pk pu pf pn pg pi) : BK w W.drew pk pu pf pn pg pi := ⟨h.1, below_drew h.2⟩
theorem BK.c25 {w W : World} {pk pi : Int} {pu pf pn pg : List UInt8} (h : BK w W pk pu pf pn pg pi) : W.cell? ⟨w.heap.size, 2, none⟩ = some (str pf) ∧ W.cell? ⟨w.heap.size, 5, none⟩ = some (.int .i64 pi) := by
  obtain ⟨x0, x1, x2, x3, x4, x5⟩ := h.1.cs
  exact ⟨x2, x5⟩
theorem BK.c1235 {w W : World} {pk pi : Int} {pu pf pn pg : List UInt8} (h : BK w W pk pu pf pn pg pi) : W.cell? ⟨w.heap.size, 1, none⟩ = some (str pu) ∧ W.cell? ⟨w.heap.size, 2, none⟩ = some (str pf) ∧ W.cell? ⟨w.heap.size, 3, none⟩ = some (str pn) ∧ W.cell? ⟨w.heap.size, 5, none⟩ = some (.int .i64 pi) := by
  obtain ⟨x0, x1, x2, x3, x4, x5⟩ := h.1.cs
  exact ⟨x1, x2, x3, x5⟩
theorem row4_cell (w : World) (a b c d : List UInt8) (T : TypeId) (i : Nat) (hi : i < [a, b, c, d].length) : (w.alloc (.cells #[str a, str b, str c, str d] T)).cell? ⟨w.heap.size, i, none⟩ = some (str [a, b, c, d][i]) := by
  simp only [List.length_cons, List.length_nil] at hi
  rw [cell_of_row _ w.heap.size i _ T (0, 0) (heap_alloc_new w _)]
  match i, hi with
  | 0, _ => rfl
  | 1, _ => rfl
  | 2, _ => rfl
  | 3, _ => rfl
/-- Two rows of four texts. -/
structure Rows4 (w wr : World) (bl bm : Nat) (L M : List (List UInt8)) : Prop where
  ll : L.length = 4
  lm : M.length = 4
  cl : ∀ i (h : i < L.length), wr.cell? ⟨bl, i, none⟩ = some (str L[i])
  cm : ∀ i (h : i < M.length), wr.cell? ⟨bm, i, none⟩ = some (str M[i])
  b : Below w.heap.size w wr
theorem Rows4.drewN {w wr : World} {bl bm : Nat} {L M : List (List UInt8)} (h : Rows4 w wr bl bm L M) (q : Nat) : Rows4 w (wr.drewN q) bl bm L M := ⟨h.ll, h.lm, h.cl, h.cm, Below.drewsN h.b q⟩
set_option maxRecDepth 100000 in
set_option maxHeartbeats 8000000 in
theorem kback_yes (pk : Int) (pu pf pn pg s : List UInt8) (pi n : Int) (w : World) (hp : LenOk ⟨pk, pu, pf, pn, pg, pi⟩) (hn : -9223372036854775808 ≤ n ∧ n ≤ 9223372036854775807)
    (g1 : ¬ 3000 < (pu.length : Int)) (g2 : ¬ 3000 < (pf.length : Int)) (g3 : ¬ 3000 < (pn.length : Int)) (g4 : ¬ 3000 < (pg.length : Int)) (g5 : ¬ 3000 < (s.length : Int)) :
    Calls Tryd.prog 4 #[pak pk pu pf pn pg pi, str s, .int .i64 n] w fun e w' => e = .returned (.bool true) ∧ Below w.heap.size w w' := by
  have HK := Lib.hid (show BK w (w.alloc (.cells #[.int .i64 pk, str pu, str pf, str pn, str pg, .int .i64 pi] 23)) pk pu pf pn pg pi from ⟨PK.made w pk pu pf pn pg pi 23, below_alloc w _⟩)
  obtain ⟨p1, p2, p3, p4, p5, p6⟩ := hp
  dsimp only at p1 p2 p3 p4 p5 p6
  have CP := Lib.hid (fun W => lkey_any pk pu pf pn pg pi W ⟨p5, p6⟩ p1 p2 p3 p4)
  obtain ⟨K, hK⟩ : ∃ K, K = keyL pk pu pf pn pg pi := ⟨_, rfl⟩
  rw [← hK] at CP
  obtain ⟨⟨xk, xu, xf, xn, xg, xi⟩, b1, CX, KW⟩ := key_ways pk pu pf pn pg pi K hK
  obtain ⟨⟨yk, yu, yf, yn, yg, yi⟩, b2, CY, TW⟩ := text_ways s (by omega)
  dsimp only at CX KW CY TW
  replace CX := Lib.hid CX
  replace CY := Lib.hid CY
  replace KW := Lib.hid KW
  replace TW := Lib.hid TW
  have CE1 := Lib.hid (fun W => entry_any pf pi W p2 ⟨p5, p6⟩)
  have CE2 := Lib.hid (fun W => entry_any pf n W p2 hn)
  have CS := Lib.hid (fun W => sub_any pu pf W p1 p2)
  have CT := Lib.hid (fun W => state_any pu pf pi W p1 p2 ⟨p5, p6⟩)
  have CF := Lib.hid (fun W => folder_any pu pn W p1 p3)
  have QE := Lib.hid (fun W => entries_any pf W p2)
  have QS := Lib.hid (fun W => subs_any pu W p1)
  have QT := Lib.hid (fun W => states_any pu pf W p1 p2)
  have QF := Lib.hid (fun W => folders_any pu W p1)
  have EO := entries_order pf pi n
  have P1 := pair_numb (withinL [101, 47] pf) pi
  have P2 := pair_under (withinL [115, 47] pu) pf
  have P3 := pair_numb (withinL (withinL [114, 47] pu) pf) pi
  have P4 := pair_under (withinL [100, 47] pu) pn
  obtain ⟨M1, hM1⟩ : ∃ K, K = withinL [101, 47] pf := ⟨_, rfl⟩
  obtain ⟨M2, hM2⟩ : ∃ K, K = withinL [115, 47] pu := ⟨_, rfl⟩
  obtain ⟨M3, hM3⟩ : ∃ K, K = withinL (withinL [114, 47] pu) pf := ⟨_, rfl⟩
  obtain ⟨M4, hM4⟩ : ∃ K, K = withinL [100, 47] pu := ⟨_, rfl⟩
  rw [← hM1] at CE1 CE2 QE EO P1
  rw [← hM2] at CS QS P2
  rw [← hM3] at CT QT P3
  rw [← hM4] at CF QF P4
  obtain ⟨L1, hL1⟩ : ∃ K, K = numbL M1 pi := ⟨_, rfl⟩
  obtain ⟨E2, hE2⟩ : ∃ K, K = numbL M1 n := ⟨_, rfl⟩
  obtain ⟨L2, hL2⟩ : ∃ K, K = underL M2 pf := ⟨_, rfl⟩
  obtain ⟨L3, hL3⟩ : ∃ K, K = numbL M3 pi := ⟨_, rfl⟩
  obtain ⟨L4, hL4⟩ : ∃ K, K = underL M4 pn := ⟨_, rfl⟩
  rw [← hL1] at CE1 EO P1
  rw [← hE2] at CE2 EO
  rw [← hL2] at CS P2
  rw [← hL3] at CT P3
  rw [← hL4] at CF P4
  replace EO := Lib.hid EO
  have PS : Hid (∀ k (h1 : k < [L1, L2, L3, L4].length) (h2 : k < [M1, M2, M3, M4].length), PairOk [L1, L2, L3, L4][k] [M1, M2, M3, M4][k]) := Lib.hid (fun k h1 h2 => by
    simp only [List.length_cons, List.length_nil] at h1
    match k, h1 with
    | 0, _ => exact P1
    | 1, _ => exact P2
    | 2, _ => exact P3
    | 3, _ => exact P4)
  clear hK hM1 hM2 hM3 hM4 hL1 hL2 hL3 hL4 hE2 P1 P2 P3 P4 p1 p2 p3 p4 p5 p6 hn
  go_enter Tryd.func4, Tryd.ntmps4
  go_wp2_with fail
  refine (kfst_any _).mono ?_
  rintro e w1 ⟨rfl, hb1⟩
  have HK1 := Lib.hid (HK.out.up hb1)
  obtain ⟨x0, x1, x2, x3, x4, x5⟩ := HK1.out.1.cs
  clear hb1 HK
  go_wp2_with fail
  clear g1 g2 g3 g4 g5
  refine (CP.out _).mono ?_
  rintro e w2 ⟨rfl, hb2⟩
  have HK2 := Lib.hid (HK1.out.up hb2)
  clear hb2 HK1 x0 x1 x2 x3 x4 x5 CP
  go_wp2_with fail
  refine (CX.out _).mono ?_
  rintro e w3 ⟨rfl, hb3⟩
  have HK3 := Lib.hid ((HK2.out.up hb3).up (below_alloc w3 (.cells #[.int .i64 xk, str xu, str xf, str xn, str xg, .int .i64 xi] 23)))
  have HX := Lib.hid (PK.made w3 xk xu xf xn xg xi 23)
  clear hb3 HK2 CX
  go_upto_region 7 with fail
  go_cut [73] from 17 to 213 (fun v wc => v = .bool false ∧ Hid (BK w wc pk pu pf pn pg pi))
  case first =>
    as_aux_lemma =>
      rcases KW.out with ⟨rfl, k1⟩ | ⟨rfl, k1, rfl, CK⟩
      · go_wp2_with fail
        go_meet
        case rel => exact ⟨rfl, HK3⟩
      · have CK := Lib.hid CK
        go_wp2_with fail
        refine (CK.out _).mono ?_
        rintro e w4 ⟨rfl, hb4⟩
        obtain ⟨u0, u1, u2, u3, u4, u5⟩ := (pk_up HX.out hb4).cs
        have HK4 := Lib.hid (HK3.out.up hb4)
        obtain ⟨x0, x1, x2, x3, x4, x5⟩ := HK4.out.1.cs
        clear hb4
        go_wp2_with fail
        go_meet
        case rel => exact ⟨rfl, HK4⟩
  case rest =>
  obtain ⟨rfl, HK4⟩ := hcut
  clear HK3 HX
  go_wp2_with fail
  refine (CY.out _).mono ?_
  rintro e w5 ⟨rfl, hb5⟩
  have HK5 := Lib.hid ((HK4.out.up hb5).up (below_alloc w5 (.cells #[.int .i64 yk, str yu, str yf, str yn, str yg, .int .i64 yi] 23)))
  have HY := Lib.hid (PK.made w5 yk yu yf yn yg yi 23)
  clear hb5 HK4 CY
  go_upto_region 10 with fail
  go_cut [94] from 17 to 213 (fun v wc => v = .bool false ∧ Hid (BK w wc pk pu pf pn pg pi))
  case first =>
    as_aux_lemma =>
      rcases TW.out with ⟨rfl, he⟩ | ⟨rfl, CK⟩
      · simp only [pa0, Pa.mk.injEq] at he
        obtain ⟨rfl, rfl, rfl, rfl, rfl, rfl⟩ := he
        have heq := fun W => pa_neq 0 0 [] [] [] [] [] [] [] [] 0 0 W
        go_wp2_with fail
        go_meet
        case rel => exact ⟨rfl, HK5⟩
      · have CK := Lib.hid CK
        go_wp2_with fail
        refine (CK.out _).mono ?_
        rintro e w6 ⟨rfl, hb6⟩
        have HK6 := Lib.hid (HK5.out.up hb6)
        clear hb6
        go_wp2_with fail
        go_meet
        case rel => exact ⟨rfl, HK6⟩
  case rest =>
  obtain ⟨rfl, HK6⟩ := hcut
  clear HK5 HY
  obtain ⟨w6, hw6⟩ : ∃ w, w = wc := ⟨_, rfl⟩
  subst hw6
  go_wp2_with fail
  have HD6 := Lib.hid HK6.out.drew
  clear HK6
  go_region_held3 (fun W => W.cell? ⟨w.heap.size, 2, none⟩ = some (str pf) ∧ W.cell? ⟨w.heap.size, 5, none⟩ = some (.int .i64 pi))
    (first
      | (exact ((HD6.out.up hb7).up hb8).c25)
      | (exact (HD6.out.up hb7).c25)
      | (exact HD6.out.c25)
      | go_keep)
    ((first
      | (go_at_call 19
         (with_reducible refine (CE1.out _).mono ?_)
         rintro e w7 ⟨rfl, hb7⟩)
      | (go_at_call 19
         (with_reducible refine (CE2.out _).mono ?_)
         rintro e w8 ⟨rfl, hb8⟩)
      | fail))
  have HK8 := Lib.hid ((HD6.out.up hb7).up hb8)
  clear hb7 hb8 HD6 CE2
  obtain ⟨x0, x1, x2, x3, x4, x5⟩ := HK8.out.1.cs
  go_upto_region 13 with fail
  go_cut [126] from 17 to 213 (fun v wc => v = .bool false ∧ w8 = wc)
  case first =>
    as_aux_lemma =>
      rcases EO.out with z1 | ⟨z1, z2⟩ | ⟨z1, z2, ⟨bb, z3, z4⟩, z5⟩
      case' inr.inr => cases bb
      all_goals
        go_wp2_with fail
        go_meet
        case rel => exact ⟨rfl, rfl⟩
  case rest =>
  obtain ⟨rfl, rfl⟩ := hcut
  clear x0 x1 x2 x3 x4 x5 EO
  go_wp2_with fail
  have HD8 := Lib.hid HK8.out.drew
  clear HK8
  go_region_held3 (fun W => W.cell? ⟨w.heap.size, 1, none⟩ = some (str pu) ∧ W.cell? ⟨w.heap.size, 2, none⟩ = some (str pf) ∧ W.cell? ⟨w.heap.size, 3, none⟩ = some (str pn) ∧ W.cell? ⟨w.heap.size, 5, none⟩ = some (.int .i64 pi))
    (first
      | (exact ((HD8.out.up hb9).up hb10).c1235)
      | (exact (HD8.out.up hb9).c1235)
      | (exact HD8.out.c1235)
      | go_keep)
    ((first
      | (go_at_call 19
         (with_reducible refine (CE1.out _).mono ?_)
         rintro e w9 ⟨rfl, hb9⟩)
      | (go_at_call 20
         (with_reducible refine (CS.out _).mono ?_)
         rintro e wq ⟨rfl, hwq⟩
         replace hwq := hwq.symm
         subst hwq)
      | (go_at_call 21
         (with_reducible refine (CT.out _).mono ?_)
         rintro e w10 ⟨rfl, hb10⟩)
      | (go_at_call 22
         (with_reducible refine (CF.out _).mono ?_)
         rintro e wq ⟨rfl, hwq⟩
         replace hwq := hwq.symm
         subst hwq)
      | fail))
  have HK10 := Lib.hid ((HD8.out.up hb9).up hb10)
  clear hb9 hb10 HD8 CE1 CS CT CF
  obtain ⟨bl, hbl⟩ : ∃ b, b = w10.heap.size := ⟨_, rfl⟩
  obtain ⟨W1, hW1⟩ : ∃ W, W = w10.alloc (.cells #[str L1, str L2, str L3, str L4] 9) := ⟨_, rfl⟩
  have HK11 : Hid (BK w W1 pk pu pf pn pg pi) := Lib.hid (by rw [hW1]; exact HK10.out.up (below_alloc w10 _))
  have HL1 : Hid (∀ i (h : i < [L1, L2, L3, L4].length), W1.cell? ⟨bl, i, none⟩ = some (str [L1, L2, L3, L4][i])) := Lib.hid (fun i hi => by
    rw [hW1, hbl]
    exact row4_cell w10 L1 L2 L3 L4 _ i hi)
  have HLT : Hid (bl < W1.heap.size) := Lib.hid (by rw [hW1, hbl]; simp)
  go_wp2_with fail
  rw [← hW1, ← hbl]
  clear hW1 hbl HK10
  obtain ⟨x0, x1, x2, x3, x4, x5⟩ := HK11.out.1.cs
  go_region_held3 (fun W => W.cell? ⟨w.heap.size, 1, none⟩ = some (str pu) ∧ W.cell? ⟨w.heap.size, 2, none⟩ = some (str pf))
    (first
      | (with_reducible exact And.intro x1 x2)
      | go_keep)
    ((first
      | (go_at_call 17
         (with_reducible refine (QE.out _).mono ?_)
         rintro e wq ⟨rfl, hwq⟩
         replace hwq := hwq.symm
         subst hwq)
      | (go_at_call 14
         (with_reducible refine (QS.out _).mono ?_)
         rintro e wq ⟨rfl, hwq⟩
         replace hwq := hwq.symm
         subst hwq)
      | (go_at_call 18
         (with_reducible refine (QT.out _).mono ?_)
         rintro e wq ⟨rfl, hwq⟩
         replace hwq := hwq.symm
         subst hwq)
      | (go_at_call 16
         (with_reducible refine (QF.out _).mono ?_)
         rintro e wq ⟨rfl, hwq⟩
         replace hwq := hwq.symm
         subst hwq)
      | fail))
  obtain ⟨bm, hbm⟩ : ∃ b, b = W1.heap.size := ⟨_, rfl⟩
  obtain ⟨W2, hW2⟩ : ∃ W, W = (W1.alloc (.cells #[str M1, str M2, str M3, str M4] 9)).drew := ⟨_, rfl⟩
  have HR : Hid (Rows4 w W2 bl bm [L1, L2, L3, L4] [M1, M2, M3, M4]) := Lib.hid (by
    refine ⟨rfl, rfl, fun i hi => ?_, fun i hi => ?_, ?_⟩
    · rw [hW2]
      have := (below_alloc W1 (.cells #[str M1, str M2, str M3, str M4] 9)).cell (p := ⟨bl, i, none⟩) HLT.out
      exact this.trans (HL1.out i hi)
    · rw [hW2, hbm]
      exact row4_cell W1 M1 M2 M3 M4 _ i hi
    · rw [hW2]
      exact below_drew (HK11.out.2.alloc HK11.out.2.size _))
  go_wp2_with fail
  simp only [← hW2, ← hbm]
  obtain ⟨L, hL⟩ : ∃ L, L = [L1, L2, L3, L4] := ⟨_, rfl⟩
  obtain ⟨M, hM⟩ : ∃ M, M = [M1, M2, M3, M4] := ⟨_, rfl⟩
  have HRP : Hid (Rows4 w W2 bl bm L M) ∧ Hid (∀ k (h1 : k < L.length) (h2 : k < M.length), PairOk L[k] M[k]) := by
    subst hL hM
    exact ⟨HR, PS⟩
  clear HR PS
  obtain ⟨HR, PS⟩ := HRP
  clear hW2 hbm HLT HL1 HK11 hL hM x0 x1 x2 x3 x4 x5 QE QS QT QF KW TW
  go_loopw [16] (fun iv wr => ∃ k : Nat, k ≤ 4 ∧ iv = .int .i64 (k : Int) ∧ Hid (Rows4 w wr bl bm L M)) (fun iv _ => 4 - (intOf iv).toNat)
  case atStart => exact ⟨0, by omega, rfl, HR⟩
  case round =>
    as_aux_lemma =>
      clear HR
      obtain ⟨w12, hw12⟩ : ∃ w, w = wr := ⟨_, rfl⟩
      subst hw12
      obtain ⟨k, hk, rfl, HR⟩ := hrel
      by_cases hlt : k < 4
      · have n0 : (0 : Int) ≤ (k : Int) := by omega
        have n1 : (k : Int) < 4 := by omega
        have c1 := HR.out.cl k (by rw [HR.out.ll]; exact hlt)
        have c2 := HR.out.cm k (by rw [HR.out.lm]; exact hlt)
        have hpair := PS.out k (by rw [HR.out.ll]; exact hlt) (by rw [HR.out.lm]; exact hlt)
        obtain ⟨A, hA⟩ : ∃ A, A = L[k]'(by rw [HR.out.ll]; exact hlt) := ⟨_, rfl⟩
        obtain ⟨B, hB⟩ : ∃ B, B = M[k]'(by rw [HR.out.lm]; exact hlt) := ⟨_, rfl⟩
        rw [← hA] at c1 hpair
        rw [← hB] at c2 hpair
        clear hA hB
        have e1 := str_cut A 0 B.length
        simp only [List.drop_zero, Nat.sub_zero] at e1
        have HR' := fun q => Lib.hid (HR.out.drewN q)
        rcases hpair with z1 | ⟨z1, z2, z3, z4, z5⟩
        case' inr =>
          have z3' : decide ((A.length : Int) ≤ (B.length : Int)) = false := decide_eq_false z3
          have z6 : decide (A.length ≤ B.length) = false := decide_eq_false (by omega)
          have z7 : ¬ A.length ≤ B.length := by omega
        all_goals
          go_wp2_with fail
          go_quiet (fail)
          go_wp2_with fail
          go_roundw
          case rel => exact ⟨k + 1, by omega, by go_num, HR' _⟩
          case measure => simp [intOf]; omega
      · obtain rfl : k = 4 := by omega
        go_wp2_with fail
        refine (kfst_any _).mono ?_
        rintro e w13 ⟨rfl, hb13⟩
        have HB13 := Lib.hid (HR.out.b.trans (hb13.mono HR.out.b.size))
        clear hb13
        go_wp2_with fail
        go_ret
        exact ⟨rfl, HB13.out⟩
end Go.Proofs.YtonkfekjhbfelaaDoor
