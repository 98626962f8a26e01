/- hbllaw2's first. -/
import Derived.Test.YtdkplhfbcpobaaaPairs
import Derived.Test.YtdkplhfbcpobaaaAllIS
import Derived.Test.YtdkplhfbcpobaaaKeysIS
import Derived.Test.YtdkplhfbcpobaaaSameI
import Derived.Test.YtdkplhfbcpobaaaSameS
import Derived.Test.YtdkplhfbcpobaaaPutIS
namespace Go.Proofs.Ytdkplhfbcpobaaa
open Go.RowKit
attribute [local go_sem] wide_fn wide_depth

/-- All of a map in order, wherever it lies on. -/
theorem range_all {w : World} {b : Nat} {t : Tr} (hm : MP w b t) {Wr : TypeId → Prop} : ∀ W, Below (w.heap.size + 1) (w.alloc (.cells #[.pointer (some ⟨b, 0, none⟩)] 24)) W →
    Seqs Try.prog 48 #[.pointer (some ⟨w.heap.size, 0, none⟩)] (fun p : Value × Value => #[p.1, p.2]) (NK (w.alloc (.cells #[.pointer (some ⟨b, 0, none⟩)] 24))) Wr (prs t) W := by
  intro W hW
  refine allsIS_any (hm.below (below_alloc w _)) ?_ (by simpa using hW)
  exact (Boxed.new w 24 (.pointer (some ⟨b, 0, none⟩))).cell
/-- The two pairs, put. -/
theorem two_put (b : Nat) (w1 : World) (hm1 : MP w1 b .nil) : ∃ (t1 : Tr) (z1 : Bool), Hid (Calls Try.prog 11 #[.pointer (some ⟨b, 0, none⟩), .int .i64 2, str [98]] w1 (MapPost b t1 z1 w1)) ∧
    ∃ (t2 : Tr) (z2 : Bool), Hid (∀ w2, MP w2 b t1 → Calls Try.prog 11 #[.pointer (some ⟨b, 0, none⟩), .int .i64 1, str [97]] w2 (MapPost b t2 z2 w2)) ∧ Hid (WS KSIS VSIS t2 ∧ prs t2 = [(.int .i64 1, str [97]), (.int .i64 2, str [98])]) := by
  have h0 := WS.put (K := KSIS) (V := VSIS) (k := .int .i64 2) (x := str [98]) ⟨2, rfl, by omega, by omega⟩ ⟨_, rfl⟩ (t := .nil) trivial
  have h1 := WS.put (K := KSIS) (V := VSIS) (k := .int .i64 1) (x := str [97]) ⟨1, rfl, by omega, by omega⟩ ⟨_, rfl⟩ h0.1
  have a : ht (putT (.int .i64 2) (str [98]) .nil) ≤ 1 + 0 := h0.2
  refine ⟨_, _, Lib.hid (mputIS_any b (.int .i64 2) (str [98]) .nil w1 hm1 ⟨2, rfl, by omega, by omega⟩ ⟨_, rfl⟩ trivial (by simp [ht]) (by simp [prs])), _, _,
    Lib.hid (fun w2 hm2 => mputIS_any b (.int .i64 1) (str [97]) _ w2 hm2 ⟨1, rfl, by omega, by omega⟩ ⟨_, rfl⟩ h0.1 (by omega) (by simp [putT, prs])), Lib.hid ⟨h1.1, ?_⟩⟩
  simp [putT, lessV, joinT, ht, prs, tieT]
theorem two_ints (w : World) (a : Int) (b : Int) : RdV (w.alloc (.cells #[.int .i64 a, .int .i64 b] 3)) (.slice (some ⟨w.heap.size, 0, none⟩) 2 2) ([a, b].map (Value.int .i64)) :=
  RdV.lit _ (heap_alloc_new w _) rfl (by simp)
theorem one_int (w : World) (a : Int) : RdV (w.alloc (.cells #[.int .i64 a] 3)) (.slice (some ⟨w.heap.size, 0, none⟩) 1 1) ([a].map (Value.int .i64)) :=
  RdV.lit _ (heap_alloc_new w _) rfl (by simp)
theorem two_texts (w : World) (a b : List UInt8) : RdV (w.alloc (.cells #[str a, str b] 9)) (.slice (some ⟨w.heap.size, 0, none⟩) 2 2) ([a, b].map str) :=
  RdV.lit _ (heap_alloc_new w _) rfl (by simp)
theorem sameI_yes (a b : Value) (l : List Int) (w : World) (ha : RdV w a (l.map (Value.int .i64))) (hb : RdV w b (l.map (Value.int .i64))) : Calls Try.prog 24 #[a, b] w fun e w' => e = .returned (.bool true) ∧ Below w.heap.size w w' :=
  (sameI_any a b l l w ha hb).mono (by rintro e w' ⟨rfl, n, rfl⟩; exact ⟨by simp, Below.drewsN (Below.refl _ _) _⟩)
theorem sameS_yes (a b : Value) (l : List (List UInt8)) (w : World) (ha : RdV w a (l.map str)) (hb : RdV w b (l.map str)) : Calls Try.prog 25 #[a, b] w fun e w' => e = .returned (.bool true) ∧ Below w.heap.size w w' :=
  (sameS_any a b l l w ha hb).mono (by rintro e w' ⟨rfl, n, rfl⟩; exact ⟨by simp, Below.drewsN (Below.refl _ _) _⟩)
/-- Its keys in order. -/
theorem range_keys {w : World} {b : Nat} {t : Tr} (hm : MP w b t) {Wr : TypeId → Prop} (hw : ¬ Wr 33) : ∀ W, Below (w.heap.size + 2) ((w.alloc (.cells #[.pointer (some ⟨b, 0, none⟩)] 24)).alloc (.cells #[.func (.func 48) #[] #[.pointer (some ⟨w.heap.size, 0, none⟩)]] 48)) W →
    Seqs Try.prog 50 #[.pointer (some ⟨w.heap.size + 1, 0, none⟩)] (fun p : Value × Value => #[p.1]) (NK (w.alloc (.cells #[.pointer (some ⟨b, 0, none⟩)] 24))) Wr (prs t) W := by
  intro W hW
  have bx := Boxed.new (w.alloc (.cells #[.pointer (some ⟨b, 0, none⟩)] 24)) 48 (.func (.func 48) #[] #[.pointer (some ⟨w.heap.size, 0, none⟩)])
  rw [World.size_alloc] at bx
  refine keyssIS_any (gf := 48) (lb := #[.pointer (some ⟨w.heap.size, 0, none⟩)]) (enters_of Try.func48 (by kernel_rfl) rfl) (fun W' hW' => ?_) ((hW.cell (p := ⟨w.heap.size + 1, 0, none⟩) (by show w.heap.size + 1 < w.heap.size + 2; omega)).trans bx.cell) hw
  refine range_all hm W' ?_
  have h1 : Below (w.heap.size + 1) (w.alloc (.cells #[.pointer (some ⟨b, 0, none⟩)] 24)) ((w.alloc (.cells #[.pointer (some ⟨b, 0, none⟩)] 24)).alloc (.cells #[.func (.func 48) #[] #[.pointer (some ⟨w.heap.size, 0, none⟩)]] 48)) := by
    have := below_alloc (w.alloc (.cells #[.pointer (some ⟨b, 0, none⟩)] 24)) (.cells #[.func (.func 48) #[] #[.pointer (some ⟨w.heap.size, 0, none⟩)]] 48)
    simpa using this
  have hs := hW.size
  simp only [World.size_alloc] at hs
  exact (h1.trans (hW.mono (by omega))).trans (hW'.mono (by omega))
set_option maxRecDepth 100000 in
set_option maxHeartbeats 4000000 in
theorem first_any (w : World) : Calls Try.prog 9 #[] w fun e w' => e = .returned (.bool true) ∧ Below w.heap.size w w' := by
  go_enter Try.func9, Try.ntmps9
  go_wp2_with fail
  refine (newIS_any w).mono ?_
  rintro e w1 ⟨b, rfl, hb, hm1, hb1⟩
  obtain ⟨t1, z1, C2, t2, z2, C3, HT⟩ := two_put b w1 hm1
  have H1 := Lib.hid (And.intro hb1 hb)
  clear hm1 hb1 hb
  go_wp2_with fail
  refine C2.out.mono ?_
  rintro e w2 ⟨rfl, hm2, ho2, hb2⟩
  have C3' := Lib.hid (C3.out w2 hm2)
  have H2 := Lib.hid hb2
  clear ho2 hm2 hb2 C2 C3
  go_wp2_with fail
  refine C3'.out.mono ?_
  rintro e w3 ⟨rfl, hm3, ho3, hb3⟩
  have HM := Lib.hid hm3
  have HB3 : Hid (Below w.heap.size w w3) := Lib.hid (by
    obtain ⟨h1, h3⟩ := H1.out
    subst h3
    exact (h1.trans H2.out).trans hb3)
  clear hm3 ho3 hb3 C3' H1 H2
  go_wp2_with fail
  refine (mallIS_any b w3).mono ?_
  rintro e w4 ⟨rfl, hw4⟩
  have C4 := Lib.hid (pairs_any (xs := prs t2) (w := w4) (gf := 48) (lb := #[.pointer (some ⟨w3.heap.size, 0, none⟩)]) 9 (by omega) (by rw [HT.out.2]; simp) (fun p hp => ws_keys HT.out.1 p hp) (enters_of Try.func48 (by kernel_rfl) rfl)
    (fun W hW => by subst hw4; exact NK.of_below hW) (fun W hW => by subst hw4; exact range_all HM.out W (by simpa using hW)))
  have HB4 : Hid (Below w.heap.size w w4 ∧ MP w4 b t2) := Lib.hid (by subst hw4; exact ⟨HB3.out.trans ((below_alloc w3 _).mono HB3.out.size), HM.out.below (below_alloc w3 _)⟩)
  clear hw4 HB3 HM
  go_wp2_with fail
  refine C4.out.mono ?_
  rintro e w5 ⟨va, vb, rfl, ra, rb, hb5⟩
  have e9 : (prs t2).take (Int.toNat 9) = [(.int .i64 1, str [97]), (.int .i64 2, str [98])] := by rw [HT.out.2]; rfl
  rw [e9] at ra rb
  have RA : Hid (RdV w5 va ([1, 2].map (Value.int .i64))) := Lib.hid (RdV.of_row ra)
  have RB : Hid (RdV w5 vb ([[97], [98]].map str)) := Lib.hid (RdV.of_row rb)
  have H5 : Hid (Below w.heap.size w w5 ∧ MP w5 b t2) := Lib.hid ⟨HB4.out.1.trans (hb5.mono HB4.out.1.size), HB4.out.2.below hb5⟩
  clear ra rb e9 hb5 HB4 C4
  go_wp2_with fail
  refine (sameI_yes va _ [1, 2] _ (RA.out.below (below_alloc w5 _) (Nat.le_refl _)) (two_ints w5 1 2)).mono ?_
  rintro e w6 ⟨rfl, hb6⟩
  have hb56 := (below_alloc w5 (.cells #[.int .i64 1, .int .i64 2] 3)).trans (hb6.mono (by simp))
  have RB6 := Lib.hid (RB.out.below hb56 (Nat.le_refl _))
  have H6 : Hid (Below w.heap.size w w6 ∧ MP w6 b t2) := Lib.hid ⟨H5.out.1.trans (hb56.mono H5.out.1.size), H5.out.2.below hb56⟩
  clear hb56 hb6 RB RA H5
  go_wp2_with fail
  refine (sameS_yes vb _ [[97], [98]] _ (RB6.out.below (below_alloc w6 _) (Nat.le_refl _)) (two_texts w6 [97] [98])).mono ?_
  rintro e w7 ⟨rfl, hb7⟩
  have hb67 := (below_alloc w6 (.cells #[str [97], str [98]] 9)).trans (hb7.mono (by simp))
  have H7 : Hid (Below w.heap.size w w7 ∧ MP w7 b t2) := Lib.hid ⟨H6.out.1.trans (hb67.mono H6.out.1.size), H6.out.2.below hb67⟩
  clear hb67 hb7 RB6 H6
  go_wp2_with fail
  refine (mallIS_any b w7).mono ?_
  rintro e w8 ⟨rfl, hw8⟩
  have KS8 := Lib.hid (keysIS_any 48 #[.pointer (some ⟨w7.heap.size, 0, none⟩)] w8)
  have HW8 := Lib.hid hw8
  clear hw8
  go_wp2_with fail
  refine KS8.out.mono ?_
  rintro e w9 ⟨rfl, hw9⟩
  have hs8 : w8.heap.size = w7.heap.size + 1 := by rw [HW8.out]; simp
  have C9 := Lib.hid (takeIS_any (xs := prs t2) (w := w9) (gf := 50) (lb := #[.pointer (some ⟨w8.heap.size, 0, none⟩)]) 1 (by omega) (by rw [HT.out.2]; simp) (fun p hp => (ws_keys HT.out.1 p hp).1) (enters_of Try.func50 (by kernel_rfl) rfl)
    (fun W hW => by rw [hw9, HW8.out] at hW; exact NK.of_below ((below_alloc _ _).trans (hW.mono (by simp)))) (fun W hW => by rw [hs8]; rw [hw9, HW8.out] at hW; exact range_keys H7.out.2 (by decide) W (by simpa using hW)))
  have H9 : Hid (Below w.heap.size w w9) := Lib.hid (by rw [hw9, HW8.out]; exact (H7.out.1.trans ((below_alloc w7 _).mono H7.out.1.size)).trans ((below_alloc _ _).mono (Nat.le_trans H7.out.1.size (by simp))))
  clear hw9 HW8 hs8 KS8 H7
  go_wp2_with fail
  refine C9.out.mono ?_
  rintro e w10 ⟨v, rfl, rv, hb10⟩
  have e1 : ((prs t2).take (Int.toNat 1)).map (·.1) = [.int .i64 1] := by rw [HT.out.2]; rfl
  rw [e1] at rv
  have RV : Hid (RdV w10 v ([1].map (Value.int .i64))) := Lib.hid (RdV.of_row rv)
  have H10 := Lib.hid (H9.out.trans (hb10.mono H9.out.size))
  clear rv e1 hb10 H9 C9
  go_wp2_with fail
  refine (sameI_yes v _ [1] _ (RV.out.below (below_alloc w10 _) (Nat.le_refl _)) (one_int w10 1)).mono ?_
  rintro e w11 ⟨rfl, hb11⟩
  have H11 := Lib.hid (H10.out.trans (((below_alloc w10 (.cells #[.int .i64 1] 3)).trans (hb11.mono (by simp))).mono H10.out.size))
  clear hb11 H10
  go_wp2_with fail
  go_ret
  exact ⟨rfl, H11.out⟩
end Go.Proofs.Ytdkplhfbcpobaaa
