/- Layer 5: hblref1.Mail, Any. -/
import Derived.Test.YtnaafdennieedaaRMailM
import Derived.Test.YtnaafdennieedaaRNetW
import Derived.Deep.RegionHeld
import Derived.Deep.CutRange
namespace Go.Proofs.Ytnaafdennieedaa
open Go.RowKit

set_option maxHeartbeats 800000 in
theorem rdigits_long (t : List UInt8) (w : World) (hl : t.length ≤ 140737488355328) :
    Calls Try.prog 31 #[str t, .int .i64 0, .int .i64 (t.length : Int)] w fun e w' => ∃ v, e = .returned (.int .i64 v) ∧ w' = w := by
  have n2 : ¬ (t.length : Int) < 0 + (t.length : Int) := by omega
  have b2 : (t.length : Int) ≤ 140737488355328 := by omega
  have b3 : (0 : Int) ≤ (t.length : Int) := by omega
  go_enter Try.func31, Try.ntmps31
  go_wp2_with fail
  go_loop [7, 8] (fun v i => ∃ (p : Nat) (x : Int), p ≤ t.length ∧ i = .int .i64 (p : Int) ∧ v = .int .i64 x) (fun _ i => t.length - (intOf i).toNat)
  case atStart => exact ⟨0, 0, by omega, rfl, rfl⟩
  case round =>
    obtain ⟨p, x, hp, rfl, rfl⟩ := hrel
    have g2 : (0 : Int) ≤ (p : Int) := by omega
    have g4 : (p : Int) ≤ 140737488355328 := by omega
    by_cases hlt : p < t.length
    · have g1 : (p : Int) < 0 + (t.length : Int) := by omega
      have g3 : (p : Int) < (t.length : Int) := by omega
      obtain ⟨c, hc⟩ : ∃ c, c = pk t p := ⟨_, rfl⟩
      have hgc : (ByteArray.mk t.toArray)[p]'(by simpa [ByteArray.size] using hlt) = c := by rw [hc, pk_lt t p hlt]; rfl
      clear hc
      have hcs : (c.toNat : Int) < 48 ∨ (¬ (c.toNat : Int) < 48 ∧ (57 : Int) < (c.toNat : Int)) ∨ (¬ (c.toNat : Int) < 48 ∧ ¬ (57 : Int) < (c.toNat : Int)) := by omega
      rcases hcs with c1 | ⟨c1, c2⟩ | ⟨c1, c2⟩
      · go_wp2_with fail
        go_ret
        exact ⟨⟨_, rfl⟩, rfl⟩
      · go_wp2_with fail
        go_ret
        exact ⟨⟨_, rfl⟩, rfl⟩
      · have c3 : (48 : Int) ≤ (c.toNat : Int) := by omega
        have c4 : (c.toNat : Int) ≤ 57 := by omega
        go_wp2_with fail
        go_round
        case rel => exact ⟨p + 1, _, by omega, by go_num, rfl⟩
        case measure => simp [intOf]; omega
    · have g1 : ¬ (p : Int) < 0 + (t.length : Int) := by omega
      go_wp2_with fail
      go_ret
      exact ⟨⟨_, rfl⟩, rfl⟩
theorem rdigits_whole (t : List UInt8) (w : World) (hl : t.length ≤ 140737488355328) :
    Calls Try.prog 31 #[str t, .int .i64 0, .int .i64 (t.length : Int)] w fun e w' => ∃ v, (e = .returned (.int .i64 v) ∧ w' = w) ∧ (t.length ≤ 4 → v = rdgR t 0 t.length) := by
  by_cases h : t.length ≤ 4
  · exact (rdigits_any t 0 t.length w hl (by omega) h).mono fun _ _ h => ⟨_, h, fun _ => rfl⟩
  · exact (rdigits_long t w hl).mono fun _ _ ⟨v, g⟩ => ⟨v, g, fun x => absurd x h⟩
/-- The row of names in its block. -/
theorem lit_sb {W : World} {T : TypeId} {b : Nat} (l : List (List UInt8)) (h : W.heap[b]? = some (.cells (l.map str).toArray T (0, 0))) : SB W b l := by
  intro i hi
  simp [World.cell?, h, hi]
theorem plF_bd (s : List UInt8) : ∀ (l : List (List UInt8)) (i : Int), 0 ≤ i → -1 ≤ plF s l i ∧ plF s l i ≤ i + l.length
  | [], i, h => by
    show -1 ≤ (-1 : Int) ∧ (-1 : Int) ≤ i + 0
    omega
  | x :: l, i, h => by
    show -1 ≤ (if x = s then i else plF s l (i + 1)) ∧ (if x = s then i else plF s l (i + 1)) ≤ i + ((l.length + 1 : Nat) : Int)
    have := plF_bd s l (i + 1) (by omega)
    split <;> omega
theorem rz_bd (Z : List UInt8) : -30000000 ≤ (rzF Z).1 ∧ (rzF Z).1 ≤ 30000000 := by
  unfold rzF
  split
  · split
    · rename_i _ g
      unfold roffB at g
      rw [decide_eq_true_eq] at g
      exact offV_bd _ _ _ (by omega) (by omega) (by omega) (by omega)
    · exact ⟨by decide, by decide⟩
  · split
    · rename_i v hv
      exact zoneV_bd _ v hv
    · exact ⟨by decide, by decide⟩
theorem rdgR_bd4 (Y : List UInt8) (n : Nat) (hn : n = 4 ∨ n = 2) : rdgR Y 0 n ≤ 9999 := by
  by_cases h : 0 ≤ rdgR Y 0 n
  · have e : numF Y n 0 0 false = (rdgR Y 0 n, 0 + n, false) := num_hit (Nat.zero_le _) h
    rcases hn with rfl | rfl
    · have := (num4_bd Y 0 false).2
      rw [e] at this
      exact this
    · have := (num2_bd Y 0 false).2
      rw [e] at this
      have : rdgR Y 0 2 ≤ 99 := this
      omega
  · omega
/-- Five pieces in a block. -/
def FC (W : World) (g : Nat) (D M Y T Z : List UInt8) : Prop := W.cell? ⟨g, 0, none⟩ = some (str D) ∧ W.cell? ⟨g, 1, none⟩ = some (str M) ∧ W.cell? ⟨g, 2, none⟩ = some (str Y) ∧ W.cell? ⟨g, 3, none⟩ = some (str T) ∧ W.cell? ⟨g, 4, none⟩ = some (str Z)
theorem FC.up {W W' : World} {g : Nat} {D M Y T Z : List UInt8} (h : FC W g D M Y T Z) (hb : Below W.heap.size W W') : FC W' g D M Y T Z := by
  obtain ⟨h0, h1, h2, h3, h4⟩ := h
  have hlt := World.block_lt_of_cell? W _ h0
  have e : W'.heap[g]? = W.heap[g]? := hb.block g hlt
  simp only [FC, World.cell?, e] at *
  exact ⟨h0, h1, h2, h3, h4⟩
theorem FC.drewN {W : World} {g : Nat} {D M Y T Z : List UInt8} (h : FC W g D M Y T Z) (n : Nat) : FC (W.drewN n) g D M Y T Z := h.up (Below.drewsN (Below.refl _ _) n)
/-- They lie there, and what was old lies on. -/
def FB (w W : World) (g : Nat) (D M Y T Z : List UInt8) : Prop := FC W g D M Y T Z ∧ Below w.heap.size w W
theorem FB.up {w W W' : World} {g : Nat} {D M Y T Z : List UInt8} (h : FB w W g D M Y T Z) (hb : Below W.heap.size W W') : FB w W' g D M Y T Z := ⟨h.1.up hb, h.2.trans (hb.mono h.2.size)⟩
theorem FB.drewN {w W : World} {g : Nat} {D M Y T Z : List UInt8} (h : FB w W g D M Y T Z) (n : Nat) : FB w (W.drewN n) g D M Y T Z := h.up (Below.drewsN (Below.refl _ _) n)
theorem five_of {w : World} {base : Nat} {E : TypeId} {v : Value} {D M Y T Z : List UInt8} (h : w.ownsRow base E 1 v [D, M, Y, T, Z].length ([D, M, Y, T, Z].map str)) : ∃ g cap, v = .slice (some ⟨g, 0, none⟩) 5 cap ∧ FC w g D M Y T Z := by
  rcases h.2 with ⟨rfl, hn⟩ | ⟨g, cap, cur, rfl, _, hg, h1, h2, h3, h4⟩
  · cases hn
  · refine ⟨g, cap, rfl, ?_⟩
    have key : ∀ i (h : i < 5), w.cell? ⟨g, i, none⟩ = some (([D, M, Y, T, Z].map str)[i]) := by
      intro i hi
      rw [cell_of_row w g i cur E (0, 0) hg]
      have e2 := congrArg (fun z => z[i]?) h4
      simp only [List.getElem?_take] at e2
      have e3 : ([D, M, Y, T, Z].map str)[i]? = some (([D, M, Y, T, Z].map str)[i]) := List.getElem?_eq_getElem (by simpa using hi)
      rw [if_pos (show i < [D, M, Y, T, Z].length * 1 from by simpa using hi), e3] at e2
      simpa using e2
    exact ⟨key 0 (by omega), key 1 (by omega), key 2 (by omega), key 3 (by omega), key 4 (by omega)⟩
/-- What must be so of five pieces. -/
def rawOk (D M Y T Z : List UInt8) : Prop := ((D.length = 1 ∨ D.length = 2) ∧ 0 ≤ rdgR D 0 D.length) ∧ 0 ≤ plF M monsL 0 ∧ ((Y.length = 4 ∨ Y.length = 2) ∧ 0 ≤ rdgR Y 0 Y.length) ∧
  ((T.length = 5 ∨ T.length = 8) ∧ pk T 2 = 58 ∧ (T.length = 8 → pk T 5 = 58) ∧ 0 ≤ rdgR T 0 2 ∧ 0 ≤ rdgR T 3 2 ∧ (T.length = 8 → 0 ≤ rdgR T 6 2)) ∧ (rzF Z).2 = true
theorem raw_iff (D M Y T Z : List UInt8) : mOk D M Y T Z = true ↔ rawOk D M Y T Z := by
  unfold mOk dOk yOk tOk rawOk
  simp only [decide_eq_true_eq]
theorem five_yes {D M Y T Z : List UInt8} (h : rawOk D M Y T Z) : fiveR D M Y T Z = mV D M Y T Z := if_pos ((raw_iff ..).2 h)
theorem five_no {D M Y T Z : List UInt8} (h : ¬ rawOk D M Y T Z) : fiveR D M Y T Z = (0, 4) := if_neg (fun x => h ((raw_iff ..).1 x))
theorem mlP_five {u D M Y T Z : List UInt8} (h : splitB u = [D, M, Y, T, Z]) : mlP u = fiveR D M Y T Z := by
  unfold mlP
  rw [h]
theorem mlP_else {u : List UInt8} (h : (splitB u).length ≠ 5) : mlP u = (0, 4) := by
  unfold mlP
  split
  · rename_i hs
    rw [hs] at h
    exact (h rfl).elim
  · rfl
theorem splitB_lens : ∀ (u : List UInt8), ∀ p ∈ splitB u, p.length ≤ u.length
  | [], p, h => by
    simp [splitB] at h
    simp [h]
  | c :: t, p, h => by
    rw [splitB] at h
    by_cases hc : c = 32
    · rw [if_pos hc] at h
      rcases List.mem_cons.1 h with rfl | h
      · simp
      · have := splitB_lens t p h
        simp only [List.length_cons]
        omega
    · rw [if_neg hc] at h
      cases hs : splitB t with
      | nil => exact absurd hs (splitB_ne t)
      | cons q ps =>
        rw [hs] at h
        simp only at h
        have ih := splitB_lens t
        rw [hs] at ih
        rcases List.mem_cons.1 h with rfl | h
        · have := ih q List.mem_cons_self
          simp only [List.length_cons]
          omega
        · have := ih p (List.mem_cons_of_mem _ h)
          simp only [List.length_cons]
          omega
theorem five_form : ∀ (l : List (List UInt8)), l.length = 5 → ∃ D M Y T Z, l = [D, M, Y, T, Z]
  | [D, M, Y, T, Z], _ => ⟨D, M, Y, T, Z, rfl⟩
theorem rweek_any (s : List UInt8) (w : World) (T : TypeId) : Calls Try.prog 29 #[.slice (some ⟨w.heap.size, 0, none⟩) 7 7, str s] (w.alloc (.cells #[str [77, 111, 110], str [84, 117, 101], str [87, 101, 100], str [84, 104, 117], str [70, 114, 105], str [83, 97, 116], str [83, 117, 110]] T)) fun e w' => e = .returned (.int .i64 (plF s weeksL 0)) ∧ w' = w.alloc (.cells #[str [77, 111, 110], str [84, 117, 101], str [87, 101, 100], str [84, 104, 117], str [70, 114, 105], str [83, 97, 116], str [83, 117, 110]] T) :=
  rplace_any w.heap.size weeksL s _ 7 (lit_sb (T := T) weeksL (heap_alloc_new w _)) (by decide)

set_option maxRecDepth 100000 in
set_option maxHeartbeats 32000000 in
theorem rmail_any (t : List UInt8) (w : World) (hl : t.length ≤ 100000) : Calls Try.prog 10 #[str t] w fun e w' => e = twoE (rmailR t) ∧ Below w.heap.size w w' := by
  obtain ⟨R, hR⟩ : ∃ R, R = rmailR t := ⟨_, rfl⟩
  rw [← hR]
  unfold rmailR at hR
  have HL : Hid (t.length ≤ 100000) := Lib.hid hl
  obtain ⟨B1, hB1⟩ : ∃ B, B = decide (5 < t.length ∧ pk t 3 = 44) := ⟨_, rfl⟩
  go_enter Try.func10, Try.ntmps10
  go_upto_region 1 with fail
  go_cut [21] from 14 to 20 (fun v21 wc => v21 = .bool B1 ∧ Hid (Below w.heap.size w wc))
  case first =>
    clear hR
    by_cases h5 : 5 < t.length
    · have f5 : (5 : Int) < (t.length : Int) := by omega
      have f3 : (3 : Int) < (t.length : Int) := by omega
      have k3 : 3 < t.length := by omega
      obtain ⟨c3, hc3⟩ : ∃ c, c = pk t 3 := ⟨_, rfl⟩
      have gc3 : (ByteArray.mk t.toArray)[3]'(by simpa [ByteArray.size] using k3) = c3 := by rw [hc3, pk_lt t 3 k3]; rfl
      rw [← hc3] at hB1
      clear hc3
      by_cases e3 : c3 = 44
      · have d3 : ((c3.toNat : Int) == 44) = true := by rw [e3]; rfl
        obtain rfl : B1 = true := by rw [hB1]; exact decide_eq_true ⟨h5, e3⟩
        clear hB1 e3
        go_wp2_with fail
        go_meet
        case rel => exact ⟨rfl, Lib.hid (Below.refl _ _)⟩
      · have d3 : ((c3.toNat : Int) == 44) = false := by
          rw [beq_eq_false_iff_ne]
          intro h
          exact e3 (UInt8.toNat_inj.1 (by show c3.toNat = 44; omega))
        obtain rfl : B1 = false := by rw [hB1]; exact decide_eq_false (fun x => e3 x.2)
        clear hB1 e3
        go_wp2_with fail
        go_meet
        case rel => exact ⟨rfl, Lib.hid (Below.refl _ _)⟩
    · have f5 : ¬ (5 : Int) < (t.length : Int) := by omega
      obtain rfl : B1 = false := by rw [hB1]; exact decide_eq_false (fun x => h5 x.1)
      clear hB1
      go_wp2_with fail
      go_meet
      case rel => exact ⟨rfl, Lib.hid (Below.refl _ _)⟩
  case rest =>
  obtain ⟨rfl, HB0⟩ := hcut
  have HBA : Hid (∀ o, Below w.heap.size w (wc.alloc o)) := Lib.hid (fun o => HB0.out.trans ((below_alloc wc o).mono HB0.out.size))
  go_upto_if 21 with fail
  go_cut [0] from 22 to 33 (fun v0 wc => ∃ u : List UInt8, v0 = str u ∧ Hid (R = mlP u ∧ u.length ≤ 100000) ∧ Hid (Below w.heap.size w wc))
  case first =>
    cases B1 with
    | false =>
      rw [if_neg (fun x => by rw [decide_eq_true x] at hB1; cases hB1)] at hR
      have HX := Lib.hid hR
      clear hR hB1
      go_wp2_with fail
      go_meet
      case rel => exact ⟨t, rfl, Lib.hid ⟨HX.out, HL.out⟩, HB0⟩
    | true =>
      obtain ⟨h5, e3⟩ := of_decide_eq_true hB1.symm
      rw [if_pos ⟨h5, e3⟩] at hR
      clear hB1 e3
      have f4 : (4 : Int) < (t.length : Int) := by omega
      have k4 : 4 < t.length := by omega
      obtain ⟨c4, hc4⟩ : ∃ c, c = pk t 4 := ⟨_, rfl⟩
      have gc4 : (ByteArray.mk t.toArray)[4]'(by simpa [ByteArray.size] using k4) = c4 := by rw [hc4, pk_lt t 4 k4]; rfl
      rw [← hc4] at hR
      have s1 : (ByteArray.mk t.toArray).extract 0 3 = ByteArray.mk (t.take 3).toArray := by rw [str_cut]; rfl
      have s2 : (ByteArray.mk t.toArray).extract 5 t.length = ByteArray.mk (t.drop 5).toArray := by rw [str_cut, List.take_of_length_le (by simp)]
      obtain ⟨t3, ht3⟩ : ∃ x, x = t.take 3 := ⟨_, rfl⟩
      obtain ⟨t5, ht5⟩ : ∃ x, x = t.drop 5 := ⟨_, rfl⟩
      rw [← ht3] at hR s1
      rw [← ht5] at hR s2
      have HL5 : Hid (t5.length ≤ 100000) := Lib.hid (by rw [ht5, List.length_drop]; omega)
      clear ht3 ht5 hc4
      have r2 : (5 : Int) ≤ (t.length : Int) := by omega
      have r3 : (3 : Int) ≤ (t.length : Int) := by omega
      obtain ⟨pw, hpw⟩ : ∃ pw, pw = plF t3 weeksL 0 := ⟨_, rfl⟩
      have CW := Lib.hid (rweek_any t3)
      rw [← hpw] at hR CW
      clear hpw
      by_cases g0 : pw < 0
      · rw [if_pos (.inl g0)] at hR
        have HX := Lib.hid hR
        clear hR
        go_wp2_with fail
        refine (CW.out _ _).mono ?_
        rintro e w1 ⟨rfl, rfl⟩
        go_wp2_with fail
        go_ret2
        exact ⟨congrArg twoE HX.out.symm, HBA.out _⟩
      · by_cases g1 : c4 = 32
        · rw [if_neg (fun x => x.elim g0 (fun y => y g1))] at hR
          have d4 : ((c4.toNat : Int) != 32) = false := eqb g1 rfl
          have HX := Lib.hid hR
          clear hR g1
          go_wp2_with fail
          refine (CW.out _ _).mono ?_
          rintro e w1 ⟨rfl, rfl⟩
          go_wp2_with fail
          go_meet
          case rel => exact ⟨t5, rfl, Lib.hid ⟨HX.out, HL5.out⟩, Lib.hid (HBA.out _)⟩
        · rw [if_pos (.inr g1)] at hR
          have d4 : ((c4.toNat : Int) != 32) = true := neqb g1 rfl
          have HX := Lib.hid hR
          clear hR g1
          go_wp2_with fail
          refine (CW.out _ _).mono ?_
          rintro e w1 ⟨rfl, rfl⟩
          go_wp2_with fail
          go_ret2
          exact ⟨congrArg twoE HX.out.symm, HBA.out _⟩
  case rest =>
    clear hR HL hB1 HBA HB0
    obtain ⟨u, rfl, HU, HB0⟩ := hcut
    go_wp2_with fail
    refine (rsplitb_any u _ HU.out.2).mono ?_
    rintro e w1 ⟨v, rfl, hrow, hb1⟩
    have HB1 := Lib.hid (HB0.out.trans (hb1.mono HB0.out.size))
    clear hb1 HB0
    by_cases h5 : (splitB u).length = 5
    · obtain ⟨D, M, Y, T, Z, hs⟩ := five_form _ h5
      have hlen := splitB_lens u
      rw [hs] at hrow hlen
      obtain ⟨g, cap, rfl, hfc⟩ := five_of hrow
      have HFC : Hid (FB w w1 g D M Y T Z) := Lib.hid ⟨hfc, HB1.out⟩
      clear HB1
      have lu := HU.out.2
      have lD : (D.length : Int) ≤ 100000 := by have := hlen D (by simp); omega
      have lY : (Y.length : Int) ≤ 100000 := by have := hlen Y (by simp); omega
      have lT : (T.length : Int) ≤ 100000 := by have := hlen T (by simp); omega
      have lZ : (Z.length : Int) ≤ 100000 := by have := hlen Z (by simp); omega
      have HRF : Hid (R = fiveR D M Y T Z) := Lib.hid (HU.out.1.trans (mlP_five hs))
      clear hrow hfc hlen hs h5 lu HU
      have CDI := Lib.hid (fun W => rdigits_whole D W (by omega))
      have CYI := Lib.hid (fun W => rdigits_whole Y W (by omega))
      obtain ⟨mo, hmo⟩ : ∃ x, x = plF M monsL 0 := ⟨_, rfl⟩
      have CPL : Hid (∀ (W : World) (b : Nat), SB W b monsL → Calls Try.prog 29 #[.slice (some ⟨b, 0, none⟩) 12 12, str M] W fun e w' => e = .returned (.int .i64 mo) ∧ w' = W) := Lib.hid (fun W b h => by rw [hmo]; exact rplace_any b monsL M W 12 h (by decide))
      have HMO := Lib.hid hmo
      clear hmo
      go_upto_region 8 with fail
      go_cut [5, 6, 7] from 39 to 59 (fun v5 v6 v7 wc2 => ∃ vd vy : Int, v5 = .int .i64 vd ∧ v6 = .int .i64 mo ∧ v7 = .int .i64 vy ∧ Hid (D.length ≤ 4 → vd = rdgR D 0 D.length) ∧ Hid (Y.length ≤ 4 → vy = rdgR Y 0 Y.length) ∧ Hid (FB w wc2 g D M Y T Z))
      case first =>
        obtain ⟨w3, hw3⟩ : ∃ x, x = w1 := ⟨_, rfl⟩
        rw [← hw3] at HFC ⊢
        clear hw3
        obtain ⟨wc, hwc⟩ : ∃ x, x = w3.drew := ⟨_, rfl⟩
        have HF : Hid (FB w wc g D M Y T Z) := Lib.hid (by rw [hwc]; exact HFC.out.drewN 1)
        clear HFC
        refine wp_region_held_drew (S := (fun W => FC W g D M Y T Z)) (by kernel_rfl) (by rw [← hwc]; exact HF.out.1) (fun hHeld => ?_)
        rw [← hwc] at hHeld ⊢
        clear hwc
        refine wpAnyH_take (i := 0) (v := ?v1) rfl (by kernel_rfl) (by kernel_rfl) (by kernel_rfl) (fun _ _ _ h => h) (Or.inl ⟨by rfl, ?hy1⟩) (by assumption) ?_
        case hy1 => (intro w hSw; clear hSw; go_simp; try with_reducible rfl)
        go_simp
        refine wpAnyH_take (i := 1) (v := ?v2) rfl (by kernel_rfl) (by kernel_rfl) (by kernel_rfl) (fun _ _ _ h => h) (Or.inl ⟨by rfl, ?hy2⟩) (by assumption) ?_
        case hy2 => (intro w hSw; clear hSw; go_simp; try with_reducible rfl)
        go_simp
        refine wpAnyH_take (i := 2) (v := ?v3) rfl (by kernel_rfl) (by kernel_rfl) (by kernel_rfl) (fun _ _ _ h => h) (Or.inl ⟨by rfl, ?hy3⟩) (by assumption) ?_
        case hy3 => (intro w hSw; obtain ⟨hs0, hs1, hs2, hs3, hs4⟩ := hSw; go_simp; try with_reducible rfl)
        go_simp
        refine wpAnyH_take (i := 3) (v := ?v4) rfl (by kernel_rfl) (by kernel_rfl) (by kernel_rfl) (fun _ _ _ h => h) (Or.inl ⟨by rfl, ?hy4⟩) (by assumption) ?_
        case hy4 => (intro w hSw; clear hSw; go_simp; try with_reducible rfl)
        go_simp
        refine wpAnyH_take (i := 4) (v := ?v5) rfl (by kernel_rfl) (by kernel_rfl) (by kernel_rfl) (fun _ _ _ h => h) (Or.inl ⟨by rfl, ?hy5⟩) (by assumption) ?_
        case hy5 => (intro w hSw; clear hSw; go_simp; try with_reducible rfl)
        go_simp
        refine wpAnyH_take (i := 5) (v := ?v6) rfl (by kernel_rfl) (by kernel_rfl) (by kernel_rfl) (fun _ _ _ h => h) (Or.inl ⟨by rfl, ?hy6⟩) (by assumption) ?_
        case hy6 => (intro w hSw; obtain ⟨hs0, hs1, hs2, hs3, hs4⟩ := hSw; go_simp; try with_reducible rfl)
        go_simp
        refine wpAnyH_take (i := 6) (v := ?v7) rfl (by kernel_rfl) (by kernel_rfl) (by kernel_rfl) (fun _ _ _ h => h) (Or.inl ⟨by rfl, ?hy7⟩) (by assumption) ?_
        case hy7 => (intro w hSw; clear hSw; go_simp; try with_reducible rfl)
        go_simp
        refine wpAnyH_take (i := 9) (v := ?v8) rfl (by kernel_rfl) (by kernel_rfl) (by kernel_rfl) (fun _ _ _ h => h) (Or.inl ⟨by rfl, ?hy8⟩) (by assumption) ?_
        case hy8 => (intro w hSw; clear hSw; go_simp; try with_reducible rfl)
        go_simp
        refine wpAnyH_take (i := 10) (v := ?v9) rfl (by kernel_rfl) (by kernel_rfl) (by kernel_rfl) (fun _ _ _ h => h) (Or.inl ⟨by rfl, ?hy9⟩) (by assumption) ?_
        case hy9 => (intro w hSw; clear hSw; go_simp; try with_reducible rfl)
        go_simp
        refine wpAnyH_take (i := 11) (v := ?v10) rfl (by kernel_rfl) (by kernel_rfl) (by kernel_rfl) (fun _ _ _ h => h) (Or.inl ⟨by rfl, ?hy10⟩) (by assumption) ?_
        case hy10 => (intro w hSw; obtain ⟨hs0, hs1, hs2, hs3, hs4⟩ := hSw; go_simp; try with_reducible rfl)
        go_simp
        refine wpAnyH_take (i := 13) (v := ?v11) rfl (by kernel_rfl) (by kernel_rfl) (by kernel_rfl) (fun _ _ _ h => h) (Or.inl ⟨by rfl, ?hy11⟩) (by assumption) ?_
        case hy11 => (intro w hSw; clear hSw; go_simp; try with_reducible rfl)
        go_simp
        refine wpAnyH_take (i := 14) (v := ?v12) rfl (by kernel_rfl) (by kernel_rfl) (by kernel_rfl) (fun _ _ _ h => h) (Or.inl ⟨by rfl, ?hy12⟩) (by assumption) ?_
        case hy12 => (intro w hSw; clear hSw; go_simp; try with_reducible rfl)
        go_simp
        refine wpAnyH_take (i := 15) (v := ?v13) rfl (by kernel_rfl) (by kernel_rfl) (by kernel_rfl) (fun _ _ _ h => h) (Or.inl ⟨by rfl, ?hy13⟩) (by assumption) ?_
        case hy13 => (intro w hSw; obtain ⟨hs0, hs1, hs2, hs3, hs4⟩ := hSw; go_simp; try with_reducible rfl)
        go_simp
        refine wpAnyH_take (i := 16) (v := ?v14) rfl (by kernel_rfl) (by kernel_rfl) (by kernel_rfl) (fun _ _ _ h => h) (Or.inl ⟨by rfl, ?hy14⟩) (by assumption) ?_
        case hy14 => (intro w hSw; clear hSw; go_simp; try with_reducible rfl)
        go_simp
        refine wpAnyH_take (i := 17) (v := ?v15) rfl (by kernel_rfl) (by kernel_rfl) (by kernel_rfl) (fun _ _ _ h => h) (Or.inl ⟨by rfl, ?hy15⟩) (by assumption) ?_
        case hy15 => (intro w hSw; clear hSw; go_simp; try with_reducible rfl)
        go_simp
        refine wpAnyH_take (i := 18) (v := ?v16) rfl (by kernel_rfl) (by kernel_rfl) (by kernel_rfl) (fun _ _ _ h => h) (Or.inl ⟨by rfl, ?hy16⟩) (by assumption) ?_
        case hy16 => (intro w hSw; obtain ⟨hs0, hs1, hs2, hs3, hs4⟩ := hSw; go_simp; try with_reducible rfl)
        go_simp
        refine wpAnyH_take (i := 19) (v := ?v17) rfl (by kernel_rfl) (by kernel_rfl) (by kernel_rfl) (fun _ _ _ h => h) (Or.inl ⟨by rfl, ?hy17⟩) (by assumption) ?_
        case hy17 => (intro w hSw; clear hSw; go_simp; try with_reducible rfl)
        go_simp
        refine wpAnyH_ready (rs := [7, 8]) (by kernel_rfl) (by simp) (AllReadyH.cons rfl (fun K hK => ?_) (AllReadyH.cons rfl (fun K hK => ?_) AllReadyH.nil))
        · go_simp
          refine (CDI.out _).mono ?_
          rintro e wx ⟨vd, ⟨rfl, rfl⟩, hvd⟩
          rename World => wc
          have HVD := Lib.hid hvd
          clear hvd
          go_simp
          refine hK.out _ _ (HF.out.1) (fun hHeld => ?_)
          clear hK K
          refine wpAnyH_ready (rs := [8]) (by kernel_rfl) (by simp) (AllReadyH.cons rfl (fun K hK => ?_) AllReadyH.nil)
          go_simp
          obtain ⟨k4, hk4⟩ : ∃ k, k = wc.heap.size := ⟨_, rfl⟩
          obtain ⟨wd, hwd⟩ : ∃ W, W = wc.alloc (.cells #[str [74, 97, 110], str [70, 101, 98], str [77, 97, 114], str [65, 112, 114], str [77, 97, 121], str [74, 117, 110], str [74, 117, 108], str [65, 117, 103], str [83, 101, 112], str [79, 99, 116], str [78, 111, 118], str [68, 101, 99]] 9) := ⟨_, rfl⟩
          have HSB : Hid (SB wd k4 monsL) := Lib.hid (by rw [hwd, hk4]; exact lit_sb (T := 9) monsL (heap_alloc_new wc _))
          have HF := Lib.hid (HF.out.up (show Below wc.heap.size wc wd by rw [hwd]; exact below_alloc _ _))
          rw [← hwd, ← hk4]
          clear hwd hk4
          rename World => wc
          refine hK.out _ _ (HF.out.1) (fun hHeld => ?_)
          clear hK K
          refine wpAnyH_ready (rs := [12]) (by kernel_rfl) (by simp) (AllReadyH.cons rfl (fun K hK => ?_) AllReadyH.nil)
          go_simp
          refine (CPL.out _ _ HSB.out).mono ?_
          rintro e wx ⟨rfl, rfl⟩
          rename World => wc
          go_simp
          refine hK.out _ _ (HF.out.1) (fun hHeld => ?_)
          clear hK K
          refine wpAnyH_ready (rs := [20]) (by kernel_rfl) (by simp) (AllReadyH.cons rfl (fun K hK => ?_) AllReadyH.nil)
          go_simp
          refine (CYI.out _).mono ?_
          rintro e wx ⟨vy, ⟨rfl, rfl⟩, hvy⟩
          rename World => wc
          have HVY := Lib.hid hvy
          clear hvy
          go_simp
          refine hK.out _ _ (HF.out.1) (fun hHeld => ?_)
          clear hK K
          refine wpAnyH_take (i := 21) (v := ?v18) rfl (by kernel_rfl) (by kernel_rfl) (by kernel_rfl) (fun _ _ _ h => h) (Or.inl ⟨by rfl, ?hy18⟩) (by assumption) ?_
          case hy18 => (intro w hSw; clear hSw; go_simp; try with_reducible rfl)
          go_simp
          refine wpAnyH_take (i := 22) (v := ?v19) rfl (by kernel_rfl) (by kernel_rfl) (by kernel_rfl) (fun _ _ _ h => h) (Or.inl ⟨by rfl, ?hy19⟩) (by assumption) ?_
          case hy19 => (intro w hSw; clear hSw; go_simp; try with_reducible rfl)
          go_simp
          refine wpAnyH_take (i := 23) (v := ?v20) rfl (by kernel_rfl) (by kernel_rfl) (by kernel_rfl) (fun _ _ _ h => h) (Or.inl ⟨by rfl, ?hy20⟩) (by assumption) ?_
          case hy20 => (intro w hSw; clear hSw; go_simp; try with_reducible rfl)
          go_simp
          refine wpAnyH_done (by kernel_rfl) ?_ _
          clear CDI CYI CPL
          go_wp2_with fail
          go_meet
          case rel => exact ⟨vd, vy, rfl, rfl, rfl, HVD, HVY, HF⟩
        · go_simp
          obtain ⟨k4, hk4⟩ : ∃ k, k = wc.heap.size := ⟨_, rfl⟩
          obtain ⟨wd, hwd⟩ : ∃ W, W = wc.alloc (.cells #[str [74, 97, 110], str [70, 101, 98], str [77, 97, 114], str [65, 112, 114], str [77, 97, 121], str [74, 117, 110], str [74, 117, 108], str [65, 117, 103], str [83, 101, 112], str [79, 99, 116], str [78, 111, 118], str [68, 101, 99]] 9) := ⟨_, rfl⟩
          have HSB : Hid (SB wd k4 monsL) := Lib.hid (by rw [hwd, hk4]; exact lit_sb (T := 9) monsL (heap_alloc_new wc _))
          have HF := Lib.hid (HF.out.up (show Below wc.heap.size wc wd by rw [hwd]; exact below_alloc _ _))
          rw [← hwd, ← hk4]
          clear hwd hk4
          rename World => wc
          refine hK.out _ _ (HF.out.1) (fun hHeld => ?_)
          clear hK K
          refine wpAnyH_ready (rs := [7]) (by kernel_rfl) (by simp) (AllReadyH.cons rfl (fun K hK => ?_) AllReadyH.nil)
          go_simp
          refine (CDI.out _).mono ?_
          rintro e wx ⟨vd, ⟨rfl, rfl⟩, hvd⟩
          rename World => wc
          have HVD := Lib.hid hvd
          clear hvd
          go_simp
          refine hK.out _ _ (HF.out.1) (fun hHeld => ?_)
          clear hK K
          refine wpAnyH_ready (rs := [12]) (by kernel_rfl) (by simp) (AllReadyH.cons rfl (fun K hK => ?_) AllReadyH.nil)
          go_simp
          refine (CPL.out _ _ HSB.out).mono ?_
          rintro e wx ⟨rfl, rfl⟩
          rename World => wc
          go_simp
          refine hK.out _ _ (HF.out.1) (fun hHeld => ?_)
          clear hK K
          refine wpAnyH_ready (rs := [20]) (by kernel_rfl) (by simp) (AllReadyH.cons rfl (fun K hK => ?_) AllReadyH.nil)
          go_simp
          refine (CYI.out _).mono ?_
          rintro e wx ⟨vy, ⟨rfl, rfl⟩, hvy⟩
          rename World => wc
          have HVY := Lib.hid hvy
          clear hvy
          go_simp
          refine hK.out _ _ (HF.out.1) (fun hHeld => ?_)
          clear hK K
          refine wpAnyH_take (i := 21) (v := ?v21) rfl (by kernel_rfl) (by kernel_rfl) (by kernel_rfl) (fun _ _ _ h => h) (Or.inl ⟨by rfl, ?hy21⟩) (by assumption) ?_
          case hy21 => (intro w hSw; clear hSw; go_simp; try with_reducible rfl)
          go_simp
          refine wpAnyH_take (i := 22) (v := ?v22) rfl (by kernel_rfl) (by kernel_rfl) (by kernel_rfl) (fun _ _ _ h => h) (Or.inl ⟨by rfl, ?hy22⟩) (by assumption) ?_
          case hy22 => (intro w hSw; clear hSw; go_simp; try with_reducible rfl)
          go_simp
          refine wpAnyH_take (i := 23) (v := ?v23) rfl (by kernel_rfl) (by kernel_rfl) (by kernel_rfl) (fun _ _ _ h => h) (Or.inl ⟨by rfl, ?hy23⟩) (by assumption) ?_
          case hy23 => (intro w hSw; clear hSw; go_simp; try with_reducible rfl)
          go_simp
          refine wpAnyH_done (by kernel_rfl) ?_ _
          clear CDI CYI CPL
          go_wp2_with fail
          go_meet
          case rel => exact ⟨vd, vy, rfl, rfl, rfl, HVD, HVY, HF⟩
      case rest =>
        obtain ⟨vd, vy, rfl, rfl, rfl, HVD, HVY, HF2⟩ := hcut
        clear HFC CDI CYI CPL
        obtain ⟨x0, x1, x2, x3, x4⟩ := HF2.out.1
        have HB2 := Lib.hid HF2.out.2
        by_cases a1 : D.length < 1
        · have f1 : (D.length : Int) < 1 := by omega
          have HX : Hid (R = (0, 4)) := Lib.hid (HRF.out.trans (five_no (fun x => by have := x.1.1; omega)))
          clear HRF HVD HVY HMO HF2 a1
          go_wp2_with fail
          go_ret2
          exact ⟨congrArg twoE HX.out.symm, HB2.out⟩
        have f1 : ¬ (D.length : Int) < 1 := by omega
        by_cases a2 : 2 < D.length
        · have f2 : (2 : Int) < (D.length : Int) := by omega
          have HX : Hid (R = (0, 4)) := Lib.hid (HRF.out.trans (five_no (fun x => by have := x.1.1; omega)))
          clear HRF HVD HVY HMO HF2 a1 a2
          go_wp2_with fail
          go_ret2
          exact ⟨congrArg twoE HX.out.symm, HB2.out⟩
        have f2 : ¬ (2 : Int) < (D.length : Int) := by omega
        have hd := HVD.out (by omega)
        by_cases a3 : vd < 0
        · have HX : Hid (R = (0, 4)) := Lib.hid (HRF.out.trans (five_no (fun x => by have := x.1.2; rw [← hd] at this; omega)))
          clear HRF HVD HVY HMO HF2 a1 a2 hd
          go_wp2_with fail
          go_ret2
          exact ⟨congrArg twoE HX.out.symm, HB2.out⟩
        have HD0 := Lib.hid hd
        clear hd
        by_cases a4 : mo < 0
        · have HX : Hid (R = (0, 4)) := Lib.hid (HRF.out.trans (five_no (fun x => by have := x.2.1; rw [← HMO.out] at this; omega)))
          clear HRF HVD HVY HMO HF2 HD0 a1 a2
          go_wp2_with fail
          go_ret2
          exact ⟨congrArg twoE HX.out.symm, HB2.out⟩
        by_cases a5 : Y.length = 4 ∨ Y.length = 2
        case neg =>
          have f5 : ((Y.length : Int) != 4) = true := by
            rw [bne_iff_ne]
            intro h
            exact a5 (.inl (by omega))
          have f6 : ((Y.length : Int) != 2) = true := by
            rw [bne_iff_ne]
            intro h
            exact a5 (.inr (by omega))
          have HX : Hid (R = (0, 4)) := Lib.hid (HRF.out.trans (five_no (fun x => a5 x.2.2.1.1)))
          clear HRF HVD HVY HMO HF2 HD0 a1 a2 a5
          go_wp2_with fail
          go_ret2
          exact ⟨congrArg twoE HX.out.symm, HB2.out⟩
        have hy := HVY.out (by omega)
        have yb : vy ≤ 9999 := by
          rw [hy]
          exact rdgR_bd4 Y _ a5
        obtain ⟨mo1, mo2⟩ : -1 ≤ mo ∧ mo ≤ 12 := by
          rw [HMO.out]
          exact plF_bd M monsL 0 (by omega)
        by_cases a6 : vy < 0
        · have HX : Hid (R = (0, 4)) := Lib.hid (HRF.out.trans (five_no (fun x => by have := x.2.2.1.2; rw [← hy] at this; omega)))
          have HYL : ((Y.length : Int) != 4) = false ∨ (((Y.length : Int) != 4) = true ∧ ((Y.length : Int) != 2) = false) := by
            rcases a5 with h | h <;> rw [h]
            · exact .inl rfl
            · exact .inr ⟨rfl, rfl⟩
          clear HRF HVD HVY HMO HF2 HD0 a1 a2 a5 hy
          rcases HYL with f5 | ⟨f5, f6⟩
          all_goals
            go_wp2_with fail
            go_ret2
            exact ⟨congrArg twoE HX.out.symm, HB2.out⟩
        have y0 : 0 ≤ vy := by omega
        obtain ⟨yr, hyr⟩ : ∃ x, x = yv Y.length vy := ⟨_, rfl⟩
        obtain ⟨BY, hBY⟩ : ∃ x, x = decide (Y.length = 2 ∧ vy < 69) := ⟨_, rfl⟩
        have HYW : (BY = false ∧ (((Y.length : Int) != 4) = false) ∧ ((Y.length : Int) == 2) = false ∧ yr = vy) ∨ (BY = true ∧ (((Y.length : Int) != 4) = true ∧ ((Y.length : Int) != 2) = false) ∧ ((Y.length : Int) == 2) = true ∧ vy < 69 ∧ yr = vy + 2000) ∨ (BY = false ∧ (((Y.length : Int) != 4) = true ∧ ((Y.length : Int) != 2) = false) ∧ ((Y.length : Int) == 2) = true ∧ ¬ vy < 69 ∧ yr = vy + 1900) := by
          rw [hyr, hBY]
          unfold yv
          rcases a5 with h | h <;> rw [h]
          · exact .inl ⟨rfl, rfl, rfl, rfl⟩
          · rw [if_pos rfl]
            by_cases g : vy < 69
            · rw [if_pos g]
              exact .inr (.inl ⟨decide_eq_true ⟨rfl, g⟩, ⟨rfl, rfl⟩, rfl, g, rfl⟩)
            · rw [if_neg g]
              exact .inr (.inr ⟨decide_eq_false (fun x => g x.2), ⟨rfl, rfl⟩, rfl, g, rfl⟩)
        have HYR : Hid (yr = yv Y.length (rdgR Y 0 Y.length)) := Lib.hid (by rw [hyr, hy])
        have HYO : Hid ((Y.length = 4 ∨ Y.length = 2) ∧ 0 ≤ rdgR Y 0 Y.length) := Lib.hid ⟨a5, by rw [← hy]; exact y0⟩
        have HDO : Hid ((D.length = 1 ∨ D.length = 2) ∧ 0 ≤ rdgR D 0 D.length) := Lib.hid ⟨by omega, by have := HD0.out; omega⟩
        have yr1 : 0 ≤ yr := by rcases HYW with ⟨_, _, _, h⟩ | ⟨_, _, _, _, h⟩ | ⟨_, _, _, _, h⟩ <;> omega
        have yr2 : yr ≤ 99999 := by rcases HYW with ⟨_, _, _, h⟩ | ⟨_, _, _, _, h⟩ | ⟨_, _, _, _, h⟩ <;> omega
        clear hyr hy hBY HVD HVY a1 a2 a5
        have WW := Lib.hid HYW
        clear HYW
        go_upto_region 9 with fail
        go_cut [97] from 60 to 96 (fun v97 wc3 => v97 = .bool false ∧ Hid (FB w wc3 g D M Y T Z))
        case first =>
          rcases WW.out with ⟨-, f5, -⟩ | ⟨-, ⟨f5, f6⟩, -⟩ | ⟨-, ⟨f5, f6⟩, -⟩
          all_goals
            clear WW
            go_wp2_with fail
            go_meet
            case rel => exact ⟨rfl, HF2⟩
        case rest =>
        clear x0 x1 x2 x3 x4 HF2 HB2
        obtain ⟨rfl, HF2⟩ := hcut
        obtain ⟨x0, x1, x2, x3, x4⟩ := HF2.out.1
        have HB2 := Lib.hid HF2.out.2
        go_upto_region 11 with fail
        go_cut [106] from 98 to 105 (fun v106 wc3 => v106 = .bool BY ∧ Hid (FB w wc3 g D M Y T Z))
        case first =>
          rcases WW.out with ⟨rfl, -, e1, -⟩ | ⟨rfl, -, e1, e2, -⟩ | ⟨rfl, -, e1, e2, -⟩
          all_goals
            clear WW
            go_wp2_with fail
            go_meet
            case rel => exact ⟨rfl, HF2⟩
        case rest =>
        clear x0 x1 x2 x3 x4 HF2 HB2
        obtain ⟨rfl, HF2⟩ := hcut
        obtain ⟨x0, x1, x2, x3, x4⟩ := HF2.out.1
        have HB2 := Lib.hid HF2.out.2
        go_upto_if 106 with fail
        go_cut [7] from 107 to 115 (fun v7 wc3 => v7 = .int .i64 yr ∧ Hid (FB w wc3 g D M Y T Z))
        case first =>
          rcases WW.out with ⟨rfl, -, e1, e3⟩ | ⟨rfl, -, e1, e2, e3⟩ | ⟨rfl, -, e1, e2, e3⟩
          all_goals
            have HE := Lib.hid e3
            clear WW e3
            go_wp2_with fail
            go_meet
            case rel => exact ⟨by rw [HE.out], HF2⟩
        case rest =>
        clear x0 x1 x2 x3 x4 HF2 HB2
        obtain ⟨rfl, HF2⟩ := hcut
        obtain ⟨x0, x1, x2, x3, x4⟩ := HF2.out.1
        have HB2 := Lib.hid HF2.out.2
        clear WW yb y0 a6
        have HDY : Hid (((D.length = 1 ∨ D.length = 2) ∧ 0 ≤ rdgR D 0 D.length) ∧ 0 ≤ plF M monsL 0 ∧ ((Y.length = 4 ∨ Y.length = 2) ∧ 0 ≤ rdgR Y 0 Y.length)) := Lib.hid ⟨HDO.out, by rw [← HMO.out]; omega, HYO.out⟩
        clear HDO HYO
        by_cases b1 : T.length = 5 ∨ T.length = 8
        case neg =>
          have f5 : ((T.length : Int) != 5) = true := by
            rw [bne_iff_ne]
            intro h
            exact b1 (.inl (by omega))
          have f6 : ((T.length : Int) != 8) = true := by
            rw [bne_iff_ne]
            intro h
            exact b1 (.inr (by omega))
          have HX : Hid (R = (0, 4)) := Lib.hid (HRF.out.trans (five_no (fun x => b1 x.2.2.2.1.1)))
          clear HRF HMO HF2 HD0 HYR HDY b1
          go_wp2_with fail
          go_ret2
          exact ⟨congrArg twoE HX.out.symm, HB2.out⟩
        have k2 : 2 < T.length := by omega
        have m2 : (2 : Int) < (T.length : Int) := by omega
        obtain ⟨c2, hc2⟩ : ∃ c, c = pk T 2 := ⟨_, rfl⟩
        have gc2 : (ByteArray.mk T.toArray)[2]'(by simpa [ByteArray.size] using k2) = c2 := by rw [hc2, pk_lt T 2 k2]; rfl
        have HC2 := Lib.hid hc2
        clear hc2
        obtain ⟨B8, hB8⟩ : ∃ x, x = decide (T.length = 8) := ⟨_, rfl⟩
        have HTL : Hid ((((T.length : Int) != 5) = false ∧ ((T.length : Int) == 8) = false ∧ T.length = 5 ∧ B8 = false) ∨ (((T.length : Int) != 5) = true ∧ ((T.length : Int) != 8) = false ∧ ((T.length : Int) == 8) = true ∧ T.length = 8 ∧ B8 = true)) := by
          refine Lib.hid ?_
          rw [hB8]
          rcases b1 with h | h <;> rw [h]
          · exact .inl ⟨rfl, rfl, rfl, rfl⟩
          · exact .inr ⟨rfl, rfl, rfl, rfl, rfl⟩
        clear hB8
        have HT5 := Lib.hid b1
        clear b1
        by_cases b2 : c2 = 58
        case neg =>
          have f2 : ((c2.toNat : Int) != 58) = true := neqb b2 rfl
          have HX : Hid (R = (0, 4)) := Lib.hid (HRF.out.trans (five_no (fun x => b2 (HC2.out.trans x.2.2.2.1.2.1))))
          rcases HTL.out with ⟨f5, -, -, -⟩ | ⟨f5, f6, -, -, -⟩
          all_goals
            clear HRF HMO HF2 HD0 HYR HDY HC2 HTL HT5 b2
            go_wp2_with fail
            go_ret2
            exact ⟨congrArg twoE HX.out.symm, HB2.out⟩
        have f2 : ((c2.toNat : Int) != 58) = false := eqb b2 rfl
        have HK2 : Hid (pk T 2 = 58) := Lib.hid (by rw [← HC2.out]; exact b2)
        clear HC2 b2
        obtain ⟨c5, hc5⟩ : ∃ c, c = pk T 5 := ⟨_, rfl⟩
        have HC5 := Lib.hid hc5
        clear hc5
        by_cases b5 : T.length = 8 ∧ c5 ≠ 58
        · obtain ⟨b5, b6⟩ := b5
          have k5 : 5 < T.length := by omega
          have m5 : (5 : Int) < (T.length : Int) := by omega
          have gc5 : (ByteArray.mk T.toArray)[5]'(by simpa [ByteArray.size] using k5) = c5 := by rw [HC5.out, pk_lt T 5 k5]; rfl
          have f7 : ((c5.toNat : Int) != 58) = true := neqb b6 rfl
          have f5 : ((T.length : Int) != 5) = true := by rw [b5]; rfl
          have f6 : ((T.length : Int) != 8) = false := by rw [b5]; rfl
          have f8 : ((T.length : Int) == 8) = true := by rw [b5]; rfl
          have HX : Hid (R = (0, 4)) := Lib.hid (HRF.out.trans (five_no (fun x => b6 (HC5.out.trans (x.2.2.2.1.2.2.1 b5)))))
          clear HRF HMO HF2 HD0 HYR HDY HC5 HTL HT5 HK2 b5 b6
          go_wp2_with fail
          go_ret2
          exact ⟨congrArg twoE HX.out.symm, HB2.out⟩
        have HK5 : Hid (T.length = 8 → c5 = 58) := Lib.hid (fun h => Classical.byContradiction fun g => b5 ⟨h, g⟩)
        clear b5
        have HKT : Hid (T.length = 8 → pk T 5 = 58) := Lib.hid (fun h => by rw [← HC5.out]; exact HK5.out h)
        obtain ⟨vh, hvh⟩ : ∃ x, x = rdgR T 0 2 := ⟨_, rfl⟩
        obtain ⟨vi, hvi⟩ : ∃ x, x = rdgR T 3 2 := ⟨_, rfl⟩
        obtain ⟨vs, hvs⟩ : ∃ x, x = rdgR T 6 2 := ⟨_, rfl⟩
        obtain ⟨cs, hcs⟩ : ∃ x, x = sV T := ⟨_, rfl⟩
        have HC0 : Hid (∀ W, Calls Try.prog 31 #[str T, .int .i64 0, .int .i64 2] W fun e w' => e = .returned (.int .i64 vh) ∧ w' = W) := Lib.hid (fun W => by rw [hvh]; exact rdigits_any T 0 2 W (by omega) (by omega) (by omega))
        have HC3 : Hid (∀ W, Calls Try.prog 31 #[str T, .int .i64 3, .int .i64 2] W fun e w' => e = .returned (.int .i64 vi) ∧ w' = W) := Lib.hid (fun W => by rw [hvi]; exact rdigits_any T 3 2 W (by omega) (by omega) (by omega))
        have HC6 : Hid (∀ W, Calls Try.prog 31 #[str T, .int .i64 6, .int .i64 2] W fun e w' => e = .returned (.int .i64 vs) ∧ w' = W) := Lib.hid (fun W => by rw [hvs]; exact rdigits_any T 6 2 W (by omega) (by omega) (by omega))
        have HV := Lib.hid (And.intro hvh (And.intro hvi hcs))
        have HVS := Lib.hid hvs
        have HS8 : Hid (T.length = 8 → cs = vs) := Lib.hid (fun h => by rw [hcs, hvs]; exact if_pos h)
        have HS5 : Hid (T.length = 5 → cs = 0) := Lib.hid (fun h => by rw [hcs]; exact if_neg (by omega))
        clear hvh hvi hvs hcs
        go_upto_region 16 with fail
        go_cut [141] from 119 to 140 (fun v141 wc3 => v141 = .bool false ∧ Hid (FB w wc3 g D M Y T Z))
        case first =>
          rcases HTL.out with ⟨f5, f8, -, -⟩ | ⟨f5, f6, f8, b5, -⟩
          · clear HTL
            go_wp2_with fail
            go_meet
            case rel => exact ⟨rfl, HF2⟩
          · have k5 : 5 < T.length := by omega
            have m5 : (5 : Int) < (T.length : Int) := by omega
            have gc5 : (ByteArray.mk T.toArray)[5]'(by simpa [ByteArray.size] using k5) = c5 := by rw [HC5.out, pk_lt T 5 k5]; rfl
            have f7 : ((c5.toNat : Int) != 58) = false := eqb (HK5.out b5) rfl
            clear HTL b5
            go_wp2_with fail
            go_meet
            case rel => exact ⟨rfl, HF2⟩
        case rest =>
        clear x0 x1 x2 x3 x4 HF2 HB2
        obtain ⟨rfl, HF2⟩ := hcut
        obtain ⟨x0, x1, x2, x3, x4⟩ := HF2.out.1
        have HB2 := Lib.hid HF2.out.2
        clear HK5 HC5 f2
        go_wp2_with fail
        refine (HC0.out _).mono ?_
        rintro e w7 ⟨rfl, rfl⟩
        go_wp2_with fail
        refine (HC3.out _).mono ?_
        rintro e w8 ⟨rfl, rfl⟩
        go_upto_region 19 with fail
        go_cut [148] from 146 to 147 (fun v148 wc3 => v148 = .bool B8 ∧ Hid (FB w wc3 g D M Y T Z))
        case first =>
          rcases HTL.out with ⟨-, f8, -, rfl⟩ | ⟨-, -, f8, -, rfl⟩
          all_goals
            clear HTL
            go_wp2_with fail
            go_meet
            case rel => exact ⟨rfl, HF2⟩
        case rest =>
        clear x0 x1 x2 x3 x4 HF2 HB2
        obtain ⟨rfl, HF2⟩ := hcut
        obtain ⟨x0, x1, x2, x3, x4⟩ := HF2.out.1
        have HB2 := Lib.hid HF2.out.2
        go_upto_if 148 with fail
        go_cut [11] from 149 to 150 (fun v11 wc3 => v11 = .int .i64 cs ∧ Hid (FB w wc3 g D M Y T Z))
        case first =>
          rcases HTL.out with ⟨-, -, b5, rfl⟩ | ⟨-, -, -, b5, rfl⟩
          · have HE := Lib.hid (HS5.out b5)
            clear HTL HS5 HS8 b5
            go_wp2_with fail
            go_meet
            case rel => exact ⟨by rw [HE.out], HF2⟩
          · have HE := Lib.hid (HS8.out b5)
            clear HTL HS5 HS8 b5
            go_wp2_with fail
            refine (HC6.out _).mono ?_
            rintro e w9 ⟨rfl, rfl⟩
            go_wp2_with fail
            go_meet
            case rel => exact ⟨by rw [HE.out], HF2⟩
        case rest =>
        clear x0 x1 x2 x3 x4 HF2 HB2
        obtain ⟨rfl, HF2⟩ := hcut
        obtain ⟨x0, x1, x2, x3, x4⟩ := HF2.out.1
        have HB2 := Lib.hid HF2.out.2
        clear HC0 HC3 HC6
        have HSV : Hid (cs = sV T ∧ (0 ≤ cs ↔ (T.length = 8 → 0 ≤ rdgR T 6 2))) := Lib.hid ⟨HV.out.2.2, by
          rcases HT5.out with h | h
          · rw [HS5.out h]
            exact ⟨fun _ x => by omega, fun _ => by omega⟩
          · rw [HS8.out h, HVS.out]
            exact ⟨fun x _ => x, fun x => x h⟩⟩
        obtain ⟨zb1, zb2⟩ := rz_bd Z
        have CZ := Lib.hid (fun W => rzone_any Z W (by omega))
        have CM : Hid (∀ W a, -30000000 ≤ a → a ≤ 30000000 → Calls Try.prog 33 #[.int .i64 yr, .int .i64 (mo + 1), .int .i64 vd, .int .i64 vh, .int .i64 vi, .int .i64 cs, .int .i64 a] W fun e w' => e = twoE (mres yr (mo + 1) vd vh vi cs a) ∧ w' = W) := Lib.hid (fun W a h1 h2 => rmade_any yr (mo + 1) vd vh vi cs a W h1 h2)
        have HFV : Hid ((0 ≤ vh ∧ 0 ≤ vi ∧ 0 ≤ cs ∧ (rzF Z).2 = true) → R = mres yr (mo + 1) vd vh vi cs (rzF Z).1) := Lib.hid (fun ⟨g1, g2, g3, g4⟩ => by
          rw [HRF.out, five_yes ⟨HDY.out.1, HDY.out.2.1, HDY.out.2.2, ⟨HT5.out, HK2.out, HKT.out, by rw [← HV.out.1]; exact g1, by rw [← HV.out.2.1]; exact g2, HSV.out.2.1 g3⟩, g4⟩]
          unfold mV
          rw [← HYR.out, ← HMO.out, ← HD0.out, ← HV.out.1, ← HV.out.2.1, ← HSV.out.1, Int.add_comm])
        have HFN : Hid (¬ (0 ≤ vh ∧ 0 ≤ vi ∧ 0 ≤ cs ∧ (rzF Z).2 = true) → R = (0, 4)) := Lib.hid (fun g => HRF.out.trans (five_no (fun x => g ⟨by rw [HV.out.1]; exact x.2.2.2.1.2.2.2.1, by rw [HV.out.2.1]; exact x.2.2.2.1.2.2.2.2.1, HSV.out.2.2 x.2.2.2.1.2.2.2.2.2, x.2.2.2.2⟩)))
        obtain ⟨rz, hrz⟩ : ∃ r, r = rzF Z := ⟨_, rfl⟩
        rw [← hrz] at zb1 zb2 CZ HFV HFN
        clear hrz HRF HMO HD0 HYR HDY HT5 HK2 HKT HV HVS HSV HTL HS5 HS8
        obtain ⟨zo, zk⟩ := rz
        dsimp only at zb1 zb2 HFV HFN
        go_wp2_with fail
        refine (CZ.out _).mono ?_
        rintro e w9 ⟨rfl, nz, rfl⟩
        replace HB2 := Lib.hid (Below.drewsN HB2.out nz)
        dsimp only
        by_cases b7 : vh < 0
        · have HX := Lib.hid (HFN.out (by omega))
          clear HFV HFN CM CZ
          go_wp2_with fail
          go_ret2
          exact ⟨congrArg twoE HX.out.symm, HB2.out⟩
        by_cases b8 : vi < 0
        · have HX := Lib.hid (HFN.out (by omega))
          clear HFV HFN CM CZ
          go_wp2_with fail
          go_ret2
          exact ⟨congrArg twoE HX.out.symm, HB2.out⟩
        by_cases b9 : cs < 0
        · have HX := Lib.hid (HFN.out (by omega))
          clear HFV HFN CM CZ
          go_wp2_with fail
          go_ret2
          exact ⟨congrArg twoE HX.out.symm, HB2.out⟩
        cases zk with
        | false =>
          have HX := Lib.hid (HFN.out (by simp))
          clear HFV HFN CM CZ
          go_wp2_with fail
          go_ret2
          exact ⟨congrArg twoE HX.out.symm, HB2.out⟩
        | true =>
          have HX := Lib.hid (HFV.out ⟨by omega, by omega, by omega, rfl⟩)
          clear HFV HFN CZ
          go_wp2_with fail
          refine (CM.out _ zo zb1 zb2).mono ?_
          rintro e wa ⟨rfl, rfl⟩
          rw [← HX.out]
          unfold twoE
          go_wp2_with fail
          go_ret2
          exact ⟨rfl, HB2.out⟩
    · have HX : Hid (R = (0, 4)) := Lib.hid (HU.out.1.trans (mlP_else h5))
      obtain ⟨n, hn⟩ : ∃ n, n = (splitB u).length := ⟨_, rfl⟩
      have hpos : 0 < (splitB u).length := List.length_pos_iff.2 (splitB_ne u)
      obtain ⟨g, cap, hv, _⟩ := World.ownsRow.form hrow hpos
      rw [← hn] at h5 hv
      subst hv
      have d5 : ((n : Int) != 5) = true := by
        rw [bne_iff_ne]
        intro h
        exact h5 (by omega)
      clear hrow hn hpos h5 HU
      go_wp2_with fail
      go_ret2
      exact ⟨congrArg twoE HX.out.symm, HB1.out⟩
end Go.Proofs.Ytnaafdennieedaa
