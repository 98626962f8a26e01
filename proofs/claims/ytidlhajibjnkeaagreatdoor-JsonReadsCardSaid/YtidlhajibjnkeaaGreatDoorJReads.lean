import Derived.Test.YtidlhajibjnkeaaGreatDoorJParse
import Derived.Test.YtidlhajibjnkeaaGreatDoorJPr
import Derived.Test.YtidlhajibjnkeaaGreatDoorJPrn
import Derived.Lib.SlBytesConst
import Derived.Test.YtidlhajibjnkeaaGreatDoorJCut
import Derived.Test.YtidlhajibjnkeaaGreatDoorJFew
import Derived.Test.YtidlhajibjnkeaaGreatDoorRpParse
import Derived.Test.YtidlhajibjnkeaaGreatDoorRjPln
import Derived.Test.YtidlhajibjnkeaaGreatDoorRjSame
/- JSON: the first look of the statements. -/
namespace Go.Proofs.YtidlhajibjnkeaaGreatDoor
open Go.RowKit

theorem TabJ.up {w w1 : World} {B : Nat} (h : TabJ B w) (hb : Below B w w1) (hB : B ≤ w1.heap.size) : TabJ w1.heap.size w1 := fun w' h' => h w' (hb.trans (h'.mono hB))
/-- A row of bytes that was just laid. -/
theorem Rd.rowJ (E : TypeId) (w : World) (l : List UInt8) (hl : l.length ≤ 100000) (z : Nat × Nat) : Rd (w.alloc (.cells (l.map bv).toArray E z)) (.slice (some ⟨w.heap.size, 0, none⟩) l.length l.length) l := by
  refine ⟨_, l.length, rfl, Nat.le_refl _, by unfold maxLen; omega, (fun h => by cases h), fun _ => ⟨w.heap.size, 0, rfl, fun i hi => ?_⟩⟩
  have h := heap_alloc_new w (.cells (l.map bv).toArray E z)
  rw [Nat.zero_add, cell_of_row _ w.heap.size i _ E z h]
  simp [hi]
def jc1 : List UInt8 := [123, 34, 98, 34, 58, 49, 44, 34, 97, 34, 58, 91, 116, 114, 117, 101, 44, 110, 117, 108, 108, 93, 125]
def jv1 : JV := .mk 7 0 [] [] [([97], .mk 6 0 [] [.mk 3 0 [] [] [], .mk 1 0 [] [] []] []), ([98], .mk 4 1 [] [] [])]
theorem par1 : parP jc1 = .ok jv1 23 := by
  have h0 : valP jc1 64 0 = .ok jv1 23 := by
    rw [valP_at (c := 123) rfl (by decide)]
    simp only [casP]
    rw [if_neg (by decide), if_pos trivial, objP_eq]
    have h1 : mesR (valP jc1 63) jc1 0 = .ok [([98], .mk 4 1 [] [] []), ([97], .mk 6 0 [] [.mk 3 0 [] [] [], .mk 1 0 [] [] []] [])] 23 := by kernel_rfl
    have h2 : srtM [([98], .mk 4 1 [] [] []), ([97], .mk 6 0 [] [.mk 3 0 [] [] [], .mk 1 0 [] [] []] [])] = [([97], .mk 6 0 [] [.mk 3 0 [] [] [], .mk 1 0 [] [] []] []), ([98], .mk 4 1 [] [] [])] :=
      (srt_eq (List.Perm.swap _ _ _) (by simp [Op.bytesLess]) (by simp)).symm
    rw [h1]
    show objV (.ok (srtM _) 23) = _
    rw [h2]
    rfl
  unfold parP
  rw [if_neg (by decide), h0]
  dsimp only
  rw [if_neg (by decide)]
  rfl
theorem par2 : parP [49, 46, 53] = .err 4 := by kernel_rfl
theorem par3 : parP [123, 34, 97, 34, 58, 49, 44, 34, 97, 34, 58, 50, 125] = .err 4 := by kernel_rfl
theorem may1 : mayV jv1 64 = true := by kernel_rfl
theorem pr1 : prV jv1 = [123, 34, 97, 34, 58, 91, 116, 114, 117, 101, 44, 110, 117, 108, 108, 93, 44, 34, 98, 34, 58, 49, 125] := by
  have e : Lib.itoa 1 = [49] := by
    rw [Lib.itoa, if_neg (by decide)]
    exact Lib.decDigits_one (by decide)
  have e2 : prV (.mk 4 1 [] [] []) = [49] := e
  simp [jv1, prV, prU, prT, e, quo, qbL, qb, shB]
set_option maxRecDepth 100000 in
set_option maxHeartbeats 2000000 in
theorem jfirst_any (w : World) (ht : TabJ w.heap.size w) : Calls Tryz.prog 5 #[] w fun e w' => e = .returned (.bool true) ∧ Below w.heap.size w w' := by
  have C1 : Hid (∀ W : World, Calls Tryz.prog 7 #[.slice (some ⟨W.heap.size, 0, none⟩) 23 23] (W.alloc (.cells #[.int .u8 123, .int .u8 34, .int .u8 98, .int .u8 34, .int .u8 58, .int .u8 49, .int .u8 44, .int .u8 34, .int .u8 97, .int .u8 34, .int .u8 58, .int .u8 91, .int .u8 116, .int .u8 114, .int .u8 117, .int .u8 101, .int .u8 44, .int .u8 110, .int .u8 117, .int .u8 108, .int .u8 108, .int .u8 93, .int .u8 125] 5 (23, 23 + 1))) (ParJ (W.alloc (.cells #[.int .u8 123, .int .u8 34, .int .u8 98, .int .u8 34, .int .u8 58, .int .u8 49, .int .u8 44, .int .u8 34, .int .u8 97, .int .u8 34, .int .u8 58, .int .u8 91, .int .u8 116, .int .u8 114, .int .u8 117, .int .u8 101, .int .u8 44, .int .u8 110, .int .u8 117, .int .u8 108, .int .u8 108, .int .u8 93, .int .u8 125] 5 (23, 23 + 1))) (.ok jv1 23))) := Lib.hid (fun W => by
    have h := parse_any (Rd.rowJ 5 W jc1 (by decide) (23, 23 + 1)) (by decide)
    rw [par1] at h
    exact h)
  have C2 : Hid (∀ W : World, Calls Tryz.prog 7 #[.slice (some ⟨W.heap.size, 0, none⟩) 3 3] (W.alloc (.cells #[.int .u8 49, .int .u8 46, .int .u8 53] 5 (3, 3 + 1))) (ParJ (W.alloc (.cells #[.int .u8 49, .int .u8 46, .int .u8 53] 5 (3, 3 + 1))) (.err 4))) := Lib.hid (fun W => by
    have h := parse_any (Rd.rowJ 5 W [49, 46, 53] (by decide) (3, 3 + 1)) (by decide)
    rw [par2] at h
    exact h)
  have C3 : Hid (∀ W : World, Calls Tryz.prog 7 #[.slice (some ⟨W.heap.size, 0, none⟩) 13 13] (W.alloc (.cells #[.int .u8 123, .int .u8 34, .int .u8 97, .int .u8 34, .int .u8 58, .int .u8 49, .int .u8 44, .int .u8 34, .int .u8 97, .int .u8 34, .int .u8 58, .int .u8 50, .int .u8 125] 5 (13, 13 + 1))) (ParJ (W.alloc (.cells #[.int .u8 123, .int .u8 34, .int .u8 97, .int .u8 34, .int .u8 58, .int .u8 49, .int .u8 44, .int .u8 34, .int .u8 97, .int .u8 34, .int .u8 58, .int .u8 50, .int .u8 125] 5 (13, 13 + 1))) (.err 4))) := Lib.hid (fun W => by
    have h := parse_any (Rd.rowJ 5 W [123, 34, 97, 34, 58, 49, 44, 34, 97, 34, 58, 50, 125] (by decide) (13, 13 + 1)) (by decide)
    rw [par3] at h
    exact h)
  have HT := Lib.hid ht
  clear ht
  have kc := fun (w : World) (C : Array Value) (n c : Nat) => Lib.run_convert_bytes_const (P := Tryz.prog) w 22 5 C n c Tryz.underlying22 Tryz.underlying5
  go_enter Tryz.func5, Tryz.ntmps5
  go_wp2_with fail
  refine (C1.out w).mono ?_
  rintro e w1 ⟨cs, rfl, hv, hb⟩
  have hb1 := (below_alloc w _).trans (hb.mono (by simp))
  obtain ⟨al, ll, cl, am, lm, cm, rfl, _, _⟩ := hv.open
  obtain ⟨W2, hW2⟩ : ∃ W2, W2 = w1.alloc (.cells #[.int .i64 jv1.kind, .int .i64 jv1.n, str jv1.s, .slice al ll cl, .slice am lm cm] 28) := ⟨_, rfl⟩
  have hb2 : Below w.heap.size w W2 := by rw [hW2]; exact hb1.trans ((below_alloc w1 _).mono hb1.size)
  have hv1 := hv.mono (G := fun _ => True) (fun _ _ _ => trivial)
  have hv2 := hv1.up (show Below w1.heap.size w1 W2 by rw [hW2]; exact below_alloc w1 _)
  have CP := Lib.hid (print_yes hv2 may1 (by rw [pr1]; decide) (HT.out.up hb2 hb2.size))
  have HB2 := Lib.hid hb2
  clear hb hb1 hb2 hv hv1 hv2
  go_wp2_with fail
  rw [← hW2]
  clear hW2
  refine CP.out.mono ?_
  rintro e w3 ⟨v3, rfl, hown, hb3⟩
  rw [pr1] at hown
  obtain ⟨a3, n3, c3, rfl⟩ := hown.form
  have HR3 := Lib.hid hown.rd
  have HB3 := Lib.hid (HB2.out.trans (hb3.mono HB2.out.size))
  clear hown hb3 CP HB2
  go_wp2_with fail
  refine (C2.out w3).mono ?_
  rintro e w4 ⟨rfl, _, hb4⟩
  have hb4' := (below_alloc w3 (.cells #[.int .u8 49, .int .u8 46, .int .u8 53] 5 (3, 3 + 1))).trans (hb4.mono (by simp))
  have HR4 := Lib.hid ((HR3.out.below hb4' (Nat.le_refl _)).alloc (.cells #[.int .i64 0, .int .i64 0, str [], .slice none 0 0, .slice none 0 0] 28))
  have HB4 := Lib.hid ((HB3.out.trans (hb4'.mono HB3.out.size)).alloc (by have := HB3.out.size; have := hb4'.size; omega) (.cells #[.int .i64 0, .int .i64 0, str [], .slice none 0 0, .slice none 0 0] 28))
  clear hb4 hb4' HR3 HB3
  obtain ⟨w5, hw5⟩ : ∃ w5, w5 = w4.alloc (.cells #[.int .i64 0, .int .i64 0, str [], .slice none 0 0, .slice none 0 0] 28) := ⟨_, rfl⟩
  rw [← hw5] at HR4 HB4
  go_upto_region 4 with fail
  rw [← hw5]
  clear hw5
  go_wp2_with fail
  refine (C3.out w5).mono ?_
  rintro e w6 ⟨rfl, _, hb6⟩
  have hb6' := (below_alloc w5 (.cells #[.int .u8 123, .int .u8 34, .int .u8 97, .int .u8 34, .int .u8 58, .int .u8 49, .int .u8 44, .int .u8 34, .int .u8 97, .int .u8 34, .int .u8 58, .int .u8 50, .int .u8 125] 5 (13, 13 + 1))).trans (hb6.mono (by simp))
  have HR6 := Lib.hid ((HR4.out.below hb6' (Nat.le_refl _)).alloc (.cells #[.int .i64 0, .int .i64 0, str [], .slice none 0 0, .slice none 0 0] 28))
  have HB6 := Lib.hid ((HB4.out.trans (hb6'.mono HB4.out.size)).alloc (by have := HB4.out.size; have := hb6'.size; omega) (.cells #[.int .i64 0, .int .i64 0, str [], .slice none 0 0, .slice none 0 0] 28))
  clear hb6 hb6' HR4 HB4
  have hconv := bt.toString Tryz.underlying9 HR6.out
  go_wp2_with fail
  go_ret
  exact ⟨rfl, HB6.out⟩
end Go.Proofs.YtidlhajibjnkeaaGreatDoor

/- JSON: how much is read of how many bytes. -/
namespace Go.Proofs.YtidlhajibjnkeaaGreatDoor
open Go.RowKit

theorem szL_app : ∀ (l : List JV) (v : JV), szL (l ++ [v]) = szL l + szV v
  | [], v => by simp [szL]
  | x :: t, v => by rw [List.cons_append, szL, szL, szL_app t v]; omega
theorem szM_app : ∀ (l : List MemT) (m : MemT), szM (l ++ [m]) = szM l + (m.1.length + szV m.2)
  | [], (a, v) => by simp [szM]
  | (b, x) :: t, m => by rw [List.cons_append, szM, szM, szM_app t m]; omega
theorem szM_perm {l l' : List MemT} (h : l.Perm l') : szM l = szM l' := by
  induction h with
  | nil => rfl
  | cons x _ ih => obtain ⟨a, v⟩ := x; rw [szM, szM, ih]
  | swap x y t => obtain ⟨a, v⟩ := x; obtain ⟨b, u⟩ := y; rw [szM, szM, szM, szM]; omega
  | trans _ _ h1 h2 => exact h1.trans h2
/-- What is read is bounded by what is passed. -/
def BdV (f : Nat → JR JV) : Prop := ∀ p v q, f p = .ok v q → szV v + 16000 * p ≤ 16000 * q
theorem its_sz {f : Nat → JR JV} {t : List UInt8} (hf : BdV f) : ∀ (n p : Nat) (acc l : List JV) (q : Nat), itsP f t n p acc = .ok l q → szL l + 16000 * p ≤ szL acc + 16000 * q
  | 0, p, acc, l, q, h => by simp [itsP] at h
  | n + 1, p, acc, l, q, h => by
    rw [itsP] at h
    split at h
    · cases h
    · next v q1 h1 =>
      have g1 := hf _ _ _ h1
      split at h
      · cases h
      · next r h2 =>
        have := behP_lt h2
        cases h
        rw [szL_app]; omega
      · next r h2 =>
        have := behP_lt h2
        have g2 := its_sz hf n r _ l q h
        rw [szL_app] at g2; omega
theorem mem_sz {f : Nat → JR JV} {t : List UInt8} (hf : BdV f) {ns : List (List UInt8)} {p q : Nat} {m : MemT} (h : memP f t ns p = .ok m q) : m.1.length + szV m.2 + 16000 * p ≤ 16000 * q := by
  unfold memP at h
  split at h
  · cases h
  · split at h
    · cases h
    · next name q0 hx =>
      have g1 := txtP_ge hx
      have g2 : name.length ≤ 8000 := by
        have := (txtP_le hx).2
        unfold txF at this
        simp only [Bool.and_eq_true, decide_eq_true_eq] at this
        exact this.1
      have g3 := skp_ge t p
      have g4 := skp_ge t q0
      split at h
      · cases h
      · split at h
        · cases h
        · split at h
          · cases h
          · split at h
            · cases h
            · next hv =>
              cases h
              have := hf _ _ _ hv
              dsimp only
              omega
theorem mes_sz {f : Nat → JR JV} {t : List UInt8} (hf : BdV f) : ∀ (n p : Nat) (acc l : List MemT) (q : Nat), mesP f t n p acc = .ok l q → szM l + 16000 * p ≤ szM acc + 16000 * q
  | 0, p, acc, l, q, h => by simp [mesP] at h
  | n + 1, p, acc, l, q, h => by
    rw [mesP] at h
    split at h
    · cases h
    · next m q1 h1 =>
      have g1 := mem_sz hf h1
      split at h
      · cases h
      · next r h2 =>
        have := behP_lt h2
        cases h
        rw [szM_app]; omega
      · next r h2 =>
        have := behP_lt h2
        have g2 := mes_sz hf n r _ l q h
        rw [szM_app] at g2; omega
theorem valP_sz (t : List UInt8) : ∀ (d : Nat), BdV (valP t d)
  | 0, p, v, q, h => by
    rw [valP] at h
    split at h
    · cases h
    · split at h <;> cases h
  | d + 1, p, v, q, h => by
    have ih := valP_sz t d
    have hs := skp_ge t p
    have hg : skp t p < q := by
      rw [valP] at h
      split at h
      · cases h
      · exact casP_ge (fun l q h => lstP_ge (valP_ge t d) h) (fun l q h => objP_ge (valP_ge t d) h) h
    rw [valP] at h
    split at h
    · cases h
    · next c hx =>
      unfold casP at h
      split at h
      · cases hl : lstP (valP t d) t (skp t p) with
        | err z => rw [hl] at h; cases h
        | ok l r =>
          rw [hl] at h
          cases h
          unfold lstP at hl
          rw [szV, szM]
          split at hl
          · cases hl
          · next h1 => have := entP_ge h1; cases hl; simp [szL]; omega
          · next h1 =>
            have := entP_ge h1
            have := its_sz ih _ _ _ _ _ hl
            simp only [szL, List.length_nil] at this ⊢
            omega
      · split at h
        · cases hl : objP (valP t d) t (skp t p) with
          | err z => rw [hl] at h; cases h
          | ok l r =>
            rw [hl] at h
            cases h
            unfold objP at hl
            rw [szV, szL]
            split at hl
            · cases hl
            · next h1 => have := entP_ge h1; cases hl; simp [szM]; omega
            · next h1 =>
              have := entP_ge h1
              split at hl
              · cases hl
              · next h2 =>
                have := mes_sz ih _ _ _ _ _ h2
                cases hl
                rw [show szM (srtM _) = szM _ from szM_perm (List.mergeSort_perm _ _)]
                simp only [szM, List.length_nil] at this ⊢
                omega
        · split at h
          · cases hl : txtP t (skp t p) with
            | err z => rw [hl] at h; cases h
            | ok l r =>
              rw [hl] at h
              cases h
              have g2 : l.length ≤ 8000 := by
                have := (txtP_le hl).2
                unfold txF at this
                simp only [Bool.and_eq_true, decide_eq_true_eq] at this
                exact this.1
              simp only [szV, szL, szM]
              omega
          · split at h
            · cases hl : numP t (skp t p) with
              | err z => rw [hl] at h; cases h
              | ok l r =>
                rw [hl] at h
                cases h
                simp only [szV, szL, szM, List.length_nil]
                omega
            · split at h
              · split at h
                · cases h; simp only [szV, szL, szM, List.length_nil]; omega
                · cases h
              · split at h
                · split at h
                  · cases h; simp only [szV, szL, szM, List.length_nil]; omega
                  · cases h
                · split at h
                  · split at h
                    · cases h; simp only [szV, szL, szM, List.length_nil]; omega
                    · cases h
                  · cases h
theorem valP_le (t : List UInt8) {d p : Nat} {v : JV} {q : Nat} (h : valP t d p = .ok v q) : q ≤ t.length := by
  have ihx := valP_app t [] d
  rw [List.append_nil] at ihx
  exact (ihx _ _ _ h).1
/-- What is read is short when it is printed. -/
theorem parP_len {t : List UInt8} {v : JV} {q : Nat} (h : parP t = .ok v q) : (prV v).length ≤ 70368744177664 := by
  have hm := parP_may h
  have hp := prV_len v 64 hm
  unfold parP at h
  split at h
  · cases h
  · split at h
    · cases h
    · next hv =>
      split at h
      · cases h
      · cases h
        have h1 := valP_sz t 64 _ _ _ hv
        have h2 := valP_le t hv
        omega
end Go.Proofs.YtidlhajibjnkeaaGreatDoor

/- JsonReads: the walk. -/
namespace Go.Proofs.YtidlhajibjnkeaaGreatDoor
open Go.RowKit

theorem jrbytes_any (x y : Value) (l m : List UInt8) (w : World) (hx : Rd w x l) (hy : Rd w y m) :
    Calls Tryz.prog 11 #[x, y] w fun e w' => e = .returned (.bool (l == m)) ∧ w' = w := by
  have c1 := bt.toString (w := w) (S := 9) Tryz.underlying9 hx
  have c2 := bt.toString (w := w) (S := 9) Tryz.underlying9 hy
  go_enter Tryz.func11, Tryz.ntmps11
  go_wp2
  go_ret
  exact ⟨rfl, rfl⟩
theorem jrcopy_any (x : Value) (l : List UInt8) (w : World) (hx : Rd w x l) (hl : l.length ≤ 140737488355328) :
    Calls Tryz.prog 6 #[x] w fun e w' => ∃ v, e = .returned v ∧ Own 5 w' w.heap.size v l ∧ Below w.heap.size w w' := by
  go_enter Tryz.func6, Tryz.ntmps6
  go_wp2_with (at_builtin; refine hold ?_)
  intro _
  refine bt.appendS rfl _ _ rfl w.heap.size _ x [] l (Own.made0 5 w) (hx.alloc _) rfl rfl (by simpa using hl) (by simp) ?_
  intro v' w2 hown2 hg2
  have hb2 := (Own.made0 5 w).grows hg2 (Nat.le_refl _) (by simp)
  go_wp2_with fail
  go_ret
  exact ⟨v', rfl, hown2, (below_alloc w _).trans hb2⟩
/-- The value that is told, and the error. -/
def pvJ (r : JR JV) : JV := match r with | .ok v _ => v | .err _ => .mk 0 0 [] [] []
def pcJ (r : JR JV) : Nat := match r with | .ok _ _ => 0 | .err c => c
theorem ParJ.un {w w' : World} {r : JR JV} {e : Ending} (h : ParJ w r e w') : ∃ cs, e = .returned (.tuple #[.agg cs.toArray, .int .i64 (pcJ r : Int)]) ∧ RdJ w' (fun _ => True) (pvJ r) cs ∧ Below w.heap.size w w' := by
  cases r with
  | err c =>
    obtain ⟨h1, _, h3⟩ := h
    exact ⟨[.int .i64 0, .int .i64 0, str [], .slice none 0 0, .slice none 0 0], h1, rdj0 _ _ _ _ _, h3⟩
  | ok v q =>
    obtain ⟨cs, h1, h2, h3⟩ := h
    exact ⟨cs, h1, h2.mono (fun _ _ _ => trivial), h3⟩
theorem pvJ_sz {t : List UInt8} (hl : t.length ≤ 21000) : szV (pvJ (parP t)) ≤ 1000000000 := by
  unfold parP
  split
  · show szV (.mk 0 0 [] [] []) ≤ _
    decide
  · split
    · show szV (.mk 0 0 [] [] []) ≤ _
      decide
    · next v q hv =>
      split
      · show szV (.mk 0 0 [] [] []) ≤ _
        decide
      · have h1 := valP_sz t 64 _ _ _ hv
        have h2 := valP_le t hv
        show szV v ≤ _
        omega
set_option maxRecDepth 100000 in
set_option maxHeartbeats 8000000 in
theorem jreads_walk (vb : Value) (t : List UInt8) (w : World) (hb : Rd w vb t) (ht : TabJ w.heap.size w) :
    Calls Tryz.prog 3 #[vb] w fun e w' => e = .returned (.bool true) ∧ Below w.heap.size w w' := by
  obtain ⟨ab, capb, rfl, hcap⟩ := id hb
  have hlen0 : t.length ≤ 9223372036854775807 := hb.lens
  have CF := Lib.hid (jfirst_any w ht)
  have HT := Lib.hid ht
  have HRB := Lib.hid hb
  clear hb ht hcap
  by_cases hbig : 21000 < t.length
  · have k1 : (21000 : Int) < (t.length : Int) := by omega
    clear hbig hlen0
    go_enter Tryz.func3, Tryz.ntmps3
    go_wp2_with fail
    refine CF.out.mono ?_
    rintro e w1 ⟨rfl, hb1⟩
    have HB1 := Lib.hid hb1
    have CF2 := Lib.hid (jfirst_any w1 (HT.out.up hb1 hb1.size))
    clear hb1 CF
    go_wp2_with fail
    refine CF2.out.mono ?_
    rintro e w2 ⟨rfl, hb2⟩
    have HB2 := Lib.hid (HB1.out.trans (hb2.mono HB1.out.size))
    clear hb2 CF2
    go_wp2_with fail
    go_ret
    exact ⟨rfl, HB2.out⟩
  · have k1 : ¬ (21000 : Int) < (t.length : Int) := by omega
    have HSZ := Lib.hid (pvJ_sz (t := t) (by omega))
    have HLN : Hid (t.length ≤ 21000) := Lib.hid (by omega)
    obtain ⟨v, hv⟩ : ∃ v, v = pvJ (parP t) := ⟨_, rfl⟩
    obtain ⟨c, hc⟩ : ∃ c, c = pcJ (parP t) := ⟨_, rfl⟩
    have HVC := Lib.hid (And.intro hv hc)
    rw [← hv] at HSZ
    clear hbig hlen0 hv hc
    go_enter Tryz.func3, Tryz.ntmps3
    go_wp2_with fail
    refine CF.out.mono ?_
    rintro e w1 ⟨rfl, hb1⟩
    have HB1 := Lib.hid hb1
    have HR1 := Lib.hid (HRB.out.below hb1 (Nat.le_refl _))
    have CC := Lib.hid (jrcopy_any _ t w1 HR1.out (by have := HLN.out; omega))
    clear hb1 CF
    go_wp2_with fail
    refine CC.out.mono ?_
    rintro e w2 ⟨vi, rfl, hown, hb2⟩
    obtain ⟨ai, ci, rfl, _⟩ := id hown.rd
    have HRI := Lib.hid hown.rd
    have HB2 := Lib.hid (And.intro (HB1.out.trans (hb2.mono HB1.out.size)) (HR1.out.below hb2 (Nat.le_refl _)))
    have CP := Lib.hid (parse_any hown.rd (by have := HLN.out; omega))
    clear hown hb2 CC HR1
    go_wp2_with fail
    refine CP.out.mono ?_
    intro e w3 hp
    obtain ⟨cs1, rfl, hv3, hb3⟩ := hp.un
    rw [← HVC.out.1] at hv3
    rw [← HVC.out.2]
    obtain ⟨al, ll, cl, am, lm, cm, hcs, _, _⟩ := hv3.open
    obtain ⟨k1v, n1v, s1v, hk1, hn1, hs1⟩ : ∃ a b c, a = v.kind ∧ b = v.n ∧ c = v.s := ⟨_, _, _, rfl, rfl, rfl⟩
    rw [← hk1, ← hn1, ← hs1] at hcs
    subst hcs
    have H3 := Lib.hid (And.intro (HB2.out.1.trans (hb3.mono HB2.out.1.size)) (And.intro hv3 (And.intro (HRI.out.below hb3 (Nat.le_refl _)) (HB2.out.2.below hb3 (Nat.le_refl _)))))
    clear hp hv3 hb3 CP HRI HB2 hk1 hn1 hs1
    go_upto_region 7 with fail
    refine wp_any_world (fun W => Below w3.heap.size w3 W ∧ W.heap[w3.heap.size]? = some (.cells #[.int .i64 k1v, .int .i64 n1v, str s1v, .slice al ll cl, .slice am lm cm] 28 (0, 0))) ⟨below_alloc _ _, heap_alloc_new _ _⟩ ?_
    rintro w4 ⟨hb4, hx4⟩
    have H4 := Lib.hid (And.intro (H3.out.1.trans (hb4.mono H3.out.1.size)) (And.intro (H3.out.2.1.up hb4) (And.intro (H3.out.2.2.1.below hb4 (Nat.le_refl _)) (And.intro (H3.out.2.2.2.below hb4 (Nat.le_refl _)) hx4))))
    obtain ⟨q1, hq1⟩ : ∃ q1, q1 = w3.heap.size := ⟨_, rfl⟩
    rw [← hq1] at H4 ⊢
    have CR := Lib.hid (rparse_any H4.out.2.2.2.1 (by have := HLN.out; omega))
    clear hb4 hx4 H3 hq1
    go_wp2_with fail
    refine CR.out.mono ?_
    intro e w5 hp
    obtain ⟨cs2, rfl, hv5, hb5⟩ := hp.un
    rw [← HVC.out.1] at hv5
    rw [← HVC.out.2]
    obtain ⟨bl, ml, dl, bm, mm, dm, hcs, _, _⟩ := hv5.open
    obtain ⟨k2v, n2v, s2v, hk2, hn2, hs2⟩ : ∃ a b c, a = v.kind ∧ b = v.n ∧ c = v.s := ⟨_, _, _, rfl, rfl, rfl⟩
    rw [← hk2, ← hn2, ← hs2] at hcs
    subst hcs
    have H5 := Lib.hid (And.intro (H4.out.1.trans (hb5.mono H4.out.1.size)) (And.intro (H4.out.2.1.up hb5) (And.intro (H4.out.2.2.1.below hb5 (Nat.le_refl _)) (And.intro (H4.out.2.2.2.1.below hb5 (Nat.le_refl _)) (And.intro (box_up H4.out.2.2.2.2 hb5) hv5)))))
    clear hp hv5 hb5 CR H4 hk2 hn2 hs2 HVC
    go_upto_region 8 with fail
    refine wp_any_world (fun W => Below w5.heap.size w5 W ∧ W.heap[w5.heap.size]? = some (.cells #[.int .i64 k2v, .int .i64 n2v, str s2v, .slice bl ml dl, .slice bm mm dm] 35 (0, 0))) ⟨below_alloc _ _, heap_alloc_new _ _⟩ ?_
    rintro w6 ⟨hb6, hx6⟩
    obtain ⟨q2, hq2⟩ : ∃ q2, q2 = w5.heap.size := ⟨_, rfl⟩
    have H6 := Lib.hid (And.intro (H5.out.1.trans (hb6.mono H5.out.1.size)) (And.intro (H5.out.2.1.up hb6) (And.intro (H5.out.2.2.1.below hb6 (Nat.le_refl _)) (And.intro (H5.out.2.2.2.1.below hb6 (Nat.le_refl _)) (And.intro (box_up H5.out.2.2.2.2.1 hb6) (And.intro (H5.out.2.2.2.2.2.up hb6) hx6))))))
    rw [← hq2] at H6 ⊢
    clear hb6 hx6 H5 hq2
    obtain ⟨wc, hwc⟩ : ∃ x, x = w6.drew := ⟨_, rfl⟩
    have HB : Hid (Below w6.heap.size w6 wc) := Lib.hid (by rw [hwc]; exact Below.drewsN (Below.refl _ _) 1)
    refine wp_region_held_drew (S := (fun W => W.heap[q1]? = some (.cells #[.int .i64 k1v, .int .i64 n1v, str s1v, .slice al ll cl, .slice am lm cm] 28 (0, 0)) ∧ W.heap[q2]? = some (.cells #[.int .i64 k2v, .int .i64 n2v, str s2v, .slice bl ml dl, .slice bm mm dm] 35 (0, 0)))) (by kernel_rfl) (by rw [← hwc]; exact ⟨box_up H6.out.2.2.2.2.1 HB.out, box_up H6.out.2.2.2.2.2.2 HB.out⟩) (fun hHeld => ?_)
    rw [← hwc] at hHeld ⊢
    clear hwc
    refine wpAnyH_ready (rs := [0]) (by kernel_rfl) (by simp) (AllReadyH.cons rfl (fun K hK => ?_) AllReadyH.nil)
    go_simp
    refine (jfirst_any _ (HT.out.up (H6.out.1.trans (HB.out.mono H6.out.1.size)) (Nat.le_trans H6.out.1.size HB.out.size))).mono ?_
    rintro e wq ⟨rfl, hb⟩
    have HB := Lib.hid (HB.out.trans (hb.mono HB.out.size))
    clear hb
    rename World => wc
    go_simp
    refine hK.out _ _ (⟨box_up H6.out.2.2.2.2.1 HB.out, box_up H6.out.2.2.2.2.2.2 HB.out⟩) (fun hHeld => ?_)
    clear hK K
    refine wpAnyH_take (i := 1) (v := ?v1) rfl (by kernel_rfl) (by kernel_rfl) (by kernel_rfl) (fun _ _ _ h => h) (Or.inl ⟨by rfl, ?hy1⟩) (by assumption) ?_
    case hy1 => (intro w hSw; clear hSw; go_simp; try with_reducible rfl)
    go_simp
    refine wpAnyH_take (i := 2) (v := ?v2) rfl (by kernel_rfl) (by kernel_rfl) (by kernel_rfl) (fun _ _ _ h => h) (Or.inl ⟨by rfl, ?hy2⟩) (by assumption) ?_
    case hy2 => (intro w hSw; obtain ⟨g1, g2⟩ := hSw; have a0 := box_cell g1 0; have a1 := box_cell g1 1; have a2 := box_cell g1 2; have a3 := box_cell g1 3; have a4 := box_cell g1 4; have b0 := box_cell g2 0; have b1 := box_cell g2 1; have b2 := box_cell g2 2; have b3 := box_cell g2 3; have b4 := box_cell g2 4; go_simp; try with_reducible rfl)
    go_simp
    refine wpAnyH_take (i := 4) (v := ?v3) rfl (by kernel_rfl) (by kernel_rfl) (by kernel_rfl) (fun _ _ _ h => h) (Or.inl ⟨by rfl, ?hy3⟩) (by assumption) ?_
    case hy3 => (intro w hSw; obtain ⟨g1, g2⟩ := hSw; have a0 := box_cell g1 0; have a1 := box_cell g1 1; have a2 := box_cell g1 2; have a3 := box_cell g1 3; have a4 := box_cell g1 4; have b0 := box_cell g2 0; have b1 := box_cell g2 1; have b2 := box_cell g2 2; have b3 := box_cell g2 3; have b4 := box_cell g2 4; go_simp; try with_reducible rfl)
    go_simp
    refine wpAnyH_ready (rs := [3]) (by kernel_rfl) (by simp) (AllReadyH.cons rfl (fun K hK => ?_) AllReadyH.nil)
    go_simp
    refine (plain_any v HSZ.out _ _ _ (H6.out.2.1.up HB.out)).mono ?_
    rintro e wq ⟨cp, rfl, hvp, hb⟩
    have HB := Lib.hid (HB.out.trans (hb.mono HB.out.size))
    have HVP := Lib.hid hvp
    clear hb hvp
    rename World => wc
    go_simp
    refine hK.out _ _ (⟨box_up H6.out.2.2.2.2.1 HB.out, box_up H6.out.2.2.2.2.2.2 HB.out⟩) (fun hHeld => ?_)
    clear hK K
    refine wpAnyH_ready (rs := [5]) (by kernel_rfl) (by simp) (AllReadyH.cons rfl (fun K hK => ?_) AllReadyH.nil)
    go_simp
    have CSM := rsame_any v v _ _ _ _ _ HVP.out (H6.out.2.2.2.2.2.1.up HB.out)
    rw [samV_self] at CSM
    refine CSM.mono ?_
    clear CSM
    rintro e wq ⟨rfl, hb⟩
    have HB := Lib.hid (HB.out.trans (hb.mono HB.out.size))
    clear hb
    rename World => wc
    go_simp
    refine hK.out _ _ (⟨box_up H6.out.2.2.2.2.1 HB.out, box_up H6.out.2.2.2.2.2.2 HB.out⟩) (fun hHeld => ?_)
    clear hK K
    refine wpAnyH_take (i := 6) (v := ?v4) rfl (by kernel_rfl) (by kernel_rfl) (by kernel_rfl) (fun _ _ _ h => h) (Or.inl ⟨by rfl, ?hy4⟩) (by assumption) ?_
    case hy4 => (intro w hSw; clear hSw; go_simp; try with_reducible rfl)
    go_simp
    refine wpAnyH_take (i := 7) (v := ?v5) rfl (by kernel_rfl) (by kernel_rfl) (by kernel_rfl) (fun _ _ _ h => h) (Or.inl ⟨by rfl, ?hy5⟩) (by assumption) ?_
    case hy5 => (intro w hSw; clear hSw; go_simp; try with_reducible rfl)
    go_simp
    refine wpAnyH_take (i := 8) (v := ?v6) rfl (by kernel_rfl) (by kernel_rfl) (by kernel_rfl) (fun _ _ _ h => h) (Or.inl ⟨by rfl, ?hy6⟩) (by assumption) ?_
    case hy6 => (intro w hSw; clear hSw; go_simp; try with_reducible rfl)
    go_simp
    refine wpAnyH_take (i := 9) (v := ?v7) rfl (by kernel_rfl) (by kernel_rfl) (by kernel_rfl) (fun _ _ _ h => h) (Or.inl ⟨by rfl, ?hy7⟩) (by assumption) ?_
    case hy7 => (intro w hSw; clear hSw; go_simp; try with_reducible rfl)
    go_simp
    refine wpAnyH_take (i := 10) (v := ?v8) rfl (by kernel_rfl) (by kernel_rfl) (by kernel_rfl) (fun _ _ _ h => h) (Or.inl ⟨by rfl, ?hy8⟩) (by assumption) ?_
    case hy8 => (intro w hSw; clear hSw; go_simp; try with_reducible rfl)
    go_simp
    refine wpAnyH_take (i := 11) (v := ?v9) rfl (by kernel_rfl) (by kernel_rfl) (by kernel_rfl) (fun _ _ _ h => h) (Or.inl ⟨by rfl, ?hy9⟩) (by assumption) ?_
    case hy9 => (intro w hSw; clear hSw; go_simp; try with_reducible rfl)
    go_simp
    refine wpAnyH_take (i := 12) (v := ?v10) rfl (by kernel_rfl) (by kernel_rfl) (by kernel_rfl) (fun _ _ _ h => h) (Or.inl ⟨by rfl, ?hy10⟩) (by assumption) ?_
    case hy10 => (intro w hSw; clear hSw; go_simp; try with_reducible rfl)
    go_simp
    refine wpAnyH_take (i := 13) (v := ?v11) rfl (by kernel_rfl) (by kernel_rfl) (by kernel_rfl) (fun _ _ _ h => h) (Or.inl ⟨by rfl, ?hy11⟩) (by assumption) ?_
    case hy11 => (intro w hSw; clear hSw; go_simp; try with_reducible rfl)
    go_simp
    refine wpAnyH_take (i := 14) (v := ?v12) rfl (by kernel_rfl) (by kernel_rfl) (by kernel_rfl) (fun _ _ _ h => h) (Or.inl ⟨by rfl, ?hy12⟩) (by assumption) ?_
    case hy12 => (intro w hSw; clear hSw; go_simp; try with_reducible rfl)
    go_simp
    refine wpAnyH_ready (rs := [15]) (by kernel_rfl) (by simp) (AllReadyH.cons rfl (fun K hK => ?_) AllReadyH.nil)
    go_simp
    have CBY := jrbytes_any _ _ _ _ wc (H6.out.2.2.1.below HB.out (Nat.le_refl _)) (H6.out.2.2.2.1.below HB.out (Nat.le_refl _))
    rw [beq_self_eq_true] at CBY
    refine CBY.mono ?_
    clear CBY
    rintro e wq ⟨rfl, rfl⟩
    rename World => wc
    go_simp
    refine hK.out _ _ (⟨box_up H6.out.2.2.2.2.1 HB.out, box_up H6.out.2.2.2.2.2.2 HB.out⟩) (fun hHeld => ?_)
    clear hK K
    refine wpAnyH_take (i := 16) (v := ?v13) rfl (by kernel_rfl) (by kernel_rfl) (by kernel_rfl) (fun _ _ _ h => h) (Or.inl ⟨by rfl, ?hy13⟩) (by assumption) ?_
    case hy13 => (intro w hSw; clear hSw; go_simp; try with_reducible rfl)
    go_simp
    refine wpAnyH_take (i := 17) (v := ?v14) rfl (by kernel_rfl) (by kernel_rfl) (by kernel_rfl) (fun _ _ _ h => h) (Or.inl ⟨by rfl, ?hy14⟩) (by assumption) ?_
    case hy14 => (intro w hSw; clear hSw; go_simp; try with_reducible rfl)
    go_simp
    refine wpAnyH_done (by kernel_rfl) ?_ _
    have HX := Lib.hid (H6.out.1.trans (HB.out.mono H6.out.1.size))
    go_wp2_with fail
    go_ret
    exact ⟨rfl, HX.out⟩
end Go.Proofs.YtidlhajibjnkeaaGreatDoor
