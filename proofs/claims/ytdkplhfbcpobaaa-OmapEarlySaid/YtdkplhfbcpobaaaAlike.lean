/- hbllaw2's alike. -/
import Derived.Test.YtdkplhfbcpobaaaAlikeM
import Derived.IntWalk
namespace Go.Proofs.Ytdkplhfbcpobaaa
open Go.RowKit
attribute [local go_sem] wide_fn wide_depth

theorem sameI_two {w : World} {a b x y : Value} {l : List (Int × List UInt8)} (ha : TwoV w a x l) (hb : TwoV w b y l) : Calls Try.prog 24 #[a, b] w fun e w' => e = .returned (.bool true) ∧ Below w.heap.size w w' :=
  sameI_yes a b (l.map (·.1)) w (by rw [List.map_map]; exact ha.1) (by rw [List.map_map]; exact hb.1)
theorem sameS_two {w : World} {a b x y : Value} {l : List (Int × List UInt8)} (ha : TwoV w x a l) (hb : TwoV w y b l) : Calls Try.prog 25 #[a, b] w fun e w' => e = .returned (.bool true) ∧ Below w.heap.size w w' :=
  sameS_yes a b (l.map (·.2)) w (by rw [List.map_map]; exact ha.2) (by rw [List.map_map]; exact hb.2)
set_option maxRecDepth 100000 in
set_option maxHeartbeats 8000000 in
theorem alike_any {w : World} {b k bx base : Nat} {t : Tr} {vo : Value} {L : List (Int × List UInt8)} (h : TInv w b k t) (hk : k ≤ 1000000) (hp : prs t = L.map encP) (hr : RowsP w bx base vo L) {lo hi : Int} (hlo : KSIS (.int .i64 lo)) (hhi : KSIS (.int .i64 hi)) :
    Calls Try.prog 18 #[.pointer (some ⟨b, 0, none⟩), .pointer (some ⟨bx, 0, none⟩), .int .i64 lo, .int .i64 hi] w fun e w' => e = .returned (.bool true) ∧ Below w.heap.size w w' := by
  have hL : L.length ≤ 1000000 := by have := h.len; rw [hp, List.length_map] at this; omega
  have H0 := Lib.hid (And.intro h hr)
  have HP := Lib.hid (And.intro hp (And.intro hlo hhi))
  clear h hr hp hlo hhi
  go_enter Try.func18, Try.ntmps18
  -- all
  go_wp2_with fail
  refine (mallIS_any b w).mono ?_
  rintro e w1 ⟨rfl, hw1⟩
  have C := Lib.hid (pairs_all H0.out.1 hk HP.out.1 w1 hw1)
  have HB1 : Hid (Below w.heap.size w w1) := Lib.hid (by rw [hw1]; exact below_alloc w _)
  clear hw1
  go_wp2_with fail
  refine C.out.mono ?_
  rintro e w2 ⟨va, vb, rfl, hab, hb⟩
  have H2 : Hid (Below w.heap.size w w2 ∧ TwoV w2 va vb L) := Lib.hid ⟨HB1.out.trans (hb.mono HB1.out.size), hab⟩
  have M2 : Hid (TInv w2 b k t ∧ RowsP w2 bx base vo L) := Lib.hid ⟨H0.out.1.below H2.out.1, H0.out.2.below H2.out.1⟩
  clear hab hb C HB1 H0
  -- from
  go_wp2_with fail
  refine (from_any 0 0 true M2.out.2 hL).mono (fun e w' h => two_from h) |>.mono ?_
  rintro e w3 ⟨vc, vd, rfl, hcd, hb⟩
  have ef : L.filter (selR 0 0 true) = L := List.filter_eq_self.2 (fun p _ => rfl)
  rw [ef] at hcd
  have H3 : Hid (Below w.heap.size w w3 ∧ TwoV w3 va vb L ∧ TwoV w3 vc vd L) := Lib.hid ⟨H2.out.1.trans (hb.mono H2.out.1.size), H2.out.2.below hb, hcd⟩
  have M3 : Hid (TInv w3 b k t ∧ RowsP w3 bx base vo L) := Lib.hid ⟨M2.out.1.below hb, M2.out.2.below hb⟩
  clear hcd hb ef H2 M2
  -- a span
  go_wp2_with fail
  refine (mspanIS_any b (.int .i64 lo) (.int .i64 hi) HP.out.2.1 HP.out.2.2 w3).mono ?_
  rintro e w4 ⟨rfl, hw4⟩
  have C := Lib.hid (pairs_span M3.out.1 hk HP.out.1 HP.out.2.1 HP.out.2.2 w4 hw4)
  have HB4 : Hid (Below w3.heap.size w3 w4) := Lib.hid (by rw [hw4]; exact (((Below.refl _ w3).alloc (Nat.le_refl _) _).alloc (by simp) _).alloc (by simp; omega) _)
  clear hw4
  go_wp2_with fail
  refine C.out.mono ?_
  rintro e w5 ⟨ve, vf, rfl, hef, hb⟩
  have hb := HB4.out.trans (hb.mono HB4.out.size)
  have H5 : Hid (Below w.heap.size w w5 ∧ TwoV w5 va vb L ∧ TwoV w5 vc vd L ∧ TwoV w5 ve vf (L.filter (selR lo hi false))) := Lib.hid ⟨H3.out.1.trans (hb.mono H3.out.1.size), H3.out.2.1.below hb, H3.out.2.2.below hb, hef⟩
  have M5 : Hid (TInv w5 b k t ∧ RowsP w5 bx base vo L) := Lib.hid ⟨M3.out.1.below hb, M3.out.2.below hb⟩
  clear hef hb C HB4 H3 M3
  -- the rows' span
  go_wp2_with fail
  refine (from_any lo hi false M5.out.2 hL).mono (fun e w' h => two_from h) |>.mono ?_
  rintro e w6 ⟨vg, vh, rfl, hgh, hb⟩
  have H6 : Hid (Below w.heap.size w w6 ∧ TwoV w6 va vb L ∧ TwoV w6 vc vd L ∧ TwoV w6 ve vf (L.filter (selR lo hi false)) ∧ TwoV w6 vg vh (L.filter (selR lo hi false))) := Lib.hid ⟨H5.out.1.trans (hb.mono H5.out.1.size), H5.out.2.1.below hb, H5.out.2.2.1.below hb, H5.out.2.2.2.below hb, hgh⟩
  have M6 : Hid (TInv w6 b k t ∧ RowsP w6 bx base vo L) := Lib.hid ⟨M5.out.1.below hb, M5.out.2.below hb⟩
  clear hgh hb H5 M5
  -- falling
  go_wp2_with fail
  refine (mbackIS_any b w6).mono ?_
  rintro e w7 ⟨rfl, hw7⟩
  have C := Lib.hid (pairs_back M6.out.1 hk HP.out.1 w7 hw7)
  have HB7 : Hid (Below w6.heap.size w6 w7) := Lib.hid (by rw [hw7]; exact below_alloc w6 _)
  clear hw7
  go_wp2_with fail
  refine C.out.mono ?_
  rintro e w8 ⟨vp, vq, rfl, hpq, hb⟩
  have hb := HB7.out.trans (hb.mono HB7.out.size)
  obtain ⟨h0, h1, h2, h3, h4⟩ := H6.out
  have h2' := h2.below hb
  have hpq' := hpq
  have H8 : Hid (Below w.heap.size w w8 ∧ TwoV w8 va vb L ∧ TwoV w8 vc vd L ∧ TwoV w8 ve vf (L.filter (selR lo hi false)) ∧ TwoV w8 vg vh (L.filter (selR lo hi false))) := Lib.hid ⟨h0.trans (hb.mono h0.size), h1.below hb, h2.below hb, h3.below hb, h4.below hb⟩
  have M8 : Hid (MP w8 b t) := Lib.hid (M6.out.1.below hb).mp
  obtain ⟨n, hn⟩ : ∃ n, n = L.length := ⟨_, rfl⟩
  obtain ⟨⟨pa, pc, hvp, _, hpc⟩, ⟨qa, qc, hvq, _, hqc⟩⟩ := hpq'
  obtain ⟨⟨ca, cc, hvc, _, hcc⟩, ⟨da, dc, hvd, _, hdc⟩⟩ := h2'
  simp only [List.length_map, List.length_reverse, ← hn] at hvp hvq hvc hvd
  subst hvp hvq hvc hvd
  have HPC := Lib.hid hpc
  have HQC := Lib.hid hqc
  have HCC := Lib.hid hcc
  have HDC := Lib.hid hdc
  clear hpq hpc hqc hcc hdc h0 h1 h2 h3 h4 hb C HB7 H6 M6
  have CL := Lib.hid (lenIS_any b t w8 M8.out)
  rw [HP.out.1, List.length_map] at CL
  rw [← hn] at CL
  rw [← hn] at hL
  have HN := Lib.hid hn
  clear hn
  go_wp2_with fail
  refine CL.out.mono ?_
  rintro e w9 ⟨rfl, hw9⟩
  subst hw9
  clear CL
  go_wp2_with fail
  have HF := H8
  clear H8 HP M8 hk hb
  go_loopw [19] (fun iv wr => ∃ i q : Nat, i ≤ n ∧ iv = .int .i64 (i : Int) ∧ wr = w9.drewN q) (fun iv _ => n - (intOf iv).toNat)
  case atStart => exact ⟨0, 0, Nat.zero_le _, rfl, rfl⟩
  case round =>
    obtain ⟨i, q, hin, rfl, rfl⟩ := hrel
    by_cases hlt : i < n
    · have hiL : i < L.length := by rw [← HN.out]; exact hlt
      have hne : L ≠ [] := by rintro rfl; simp at hiL
      obtain ⟨j, hj⟩ : ∃ j, j = n - 1 - i := ⟨_, rfl⟩
      have hjL : j < L.length := by rw [← HN.out]; omega
      obtain ⟨x, hx⟩ : ∃ x, x = L[i].1 := ⟨_, rfl⟩
      obtain ⟨y, hy⟩ : ∃ y, y = L[i].2 := ⟨_, rfl⟩
      obtain ⟨bp, op, rfl, hP⟩ := HPC.out (by simpa using hne)
      obtain ⟨bq, oq, rfl, hQ⟩ := HQC.out (by simpa using hne)
      obtain ⟨bc, oc, rfl, hC⟩ := HCC.out (by simpa using hne)
      obtain ⟨bd, od, rfl, hD⟩ := HDC.out (by simpa using hne)
      have c1 := hP j (by simpa using hjL)
      have c2 := hQ j (by simpa using hjL)
      have c3 := hC i (by simpa using hiL)
      have c4 := hD i (by simpa using hiL)
      have ej : L.length - 1 - j = i := by rw [← HN.out]; omega
      simp only [List.getElem_map, List.getElem_reverse, ej] at c1 c2 c3 c4
      rw [← hx] at c1 c3
      rw [← hy] at c2 c4
      have t1 : (x == x) = true := by simp
      have t2 : (y == y) = true := by simp
      have g1 : (i : Int) < (n : Int) := by omega
      have g2 : (0 : Int) ≤ (i : Int) := by omega
      have g3 : (j : Int) < (n : Int) := by omega
      have g4 : (0 : Int) ≤ (j : Int) := by omega
      have s1 : IntKind.i64.wrap ((n : Int) - 1) = (n : Int) - 1 := IntWalk.i64_in _ (by omega)
      have s2 : IntKind.i64.wrap ((n : Int) - 1 - (i : Int)) = (j : Int) := by rw [IntWalk.i64_in _ (by omega)]; omega
      clear hP hQ hC hD HPC HQC HCC HDC hx hy hj ej hiL hjL hne
      go_wp2_with fail
      go_quiet (fail)
      go_wp2_with fail
      go_roundw
      case rel => exact ⟨i + 1, q + nq, by omega, by go_num, rfl⟩
      case measure => simp [intOf]; omega
    · obtain rfl : i = n := by omega
      have g1 : ¬ (i : Int) < (i : Int) := by omega
      obtain ⟨w10, hw10⟩ : ∃ w10, w10 = w9.drewN q := ⟨_, rfl⟩
      rw [← hw10]
      have HE : Hid (Below w.heap.size w w10 ∧ TwoV w10 va vb L ∧ TwoV w10 (.slice ca i cc) (.slice da i dc) L ∧ TwoV w10 ve vf (L.filter (selR lo hi false)) ∧ TwoV w10 vg vh (L.filter (selR lo hi false))) := by
        have hd : Below w9.heap.size w9 w10 := by rw [hw10]; exact Below.drewsN (Below.refl _ _) q
        obtain ⟨h0, h1, h2, h3, h4⟩ := HF.out
        exact Lib.hid ⟨h0.trans (hd.mono h0.size), h1.below hd, h2.below hd, h3.below hd, h4.below hd⟩
      clear hw10 HF HPC HQC HCC HDC
      go_wp2_with fail
      refine (sameI_two HE.out.2.1 HE.out.2.2.1).mono ?_
      rintro e w11 ⟨rfl, hb⟩
      have H1 : Hid (Below w.heap.size w w11 ∧ TwoV w11 va vb L ∧ TwoV w11 (.slice ca i cc) (.slice da i dc) L ∧ TwoV w11 ve vf (L.filter (selR lo hi false)) ∧ TwoV w11 vg vh (L.filter (selR lo hi false))) := by
        obtain ⟨h0, h1, h2, h3, h4⟩ := HE.out
        exact Lib.hid ⟨h0.trans (hb.mono h0.size), h1.below hb, h2.below hb, h3.below hb, h4.below hb⟩
      clear hb HE
      go_wp2_with fail
      refine (sameS_two H1.out.2.1 H1.out.2.2.1).mono ?_
      rintro e w12 ⟨rfl, hb⟩
      have H2 : Hid (Below w.heap.size w w12 ∧ TwoV w12 ve vf (L.filter (selR lo hi false)) ∧ TwoV w12 vg vh (L.filter (selR lo hi false))) := by
        obtain ⟨h0, h1, h2, h3, h4⟩ := H1.out
        exact Lib.hid ⟨h0.trans (hb.mono h0.size), h3.below hb, h4.below hb⟩
      clear hb H1
      go_wp2_with fail
      refine (sameI_two H2.out.2.1 H2.out.2.2).mono ?_
      rintro e w13 ⟨rfl, hb⟩
      have H3 : Hid (Below w.heap.size w w13 ∧ TwoV w13 ve vf (L.filter (selR lo hi false)) ∧ TwoV w13 vg vh (L.filter (selR lo hi false))) := by
        obtain ⟨h0, h3, h4⟩ := H2.out
        exact Lib.hid ⟨h0.trans (hb.mono h0.size), h3.below hb, h4.below hb⟩
      clear hb H2
      go_wp2_with fail
      refine (sameS_two H3.out.2.1 H3.out.2.2).mono ?_
      rintro e w14 ⟨rfl, hb⟩
      have H4 : Hid (Below w.heap.size w w14) := Lib.hid (H3.out.1.trans (hb.mono H3.out.1.size))
      clear hb H3
      go_wp2_with fail
      go_ret
      exact ⟨rfl, H4.out⟩
end Go.Proofs.Ytdkplhfbcpobaaa
