/- Joined: JFirst, JStr, JSame, JLists, JListsW. -/
import Derived.Test.YtidlhajibjnkeaaDoorJParse
import Derived.Test.YtidlhajibjnkeaaDoorJPr
import Derived.Test.YtidlhajibjnkeaaDoorJPrn
import Derived.Lib.SlBytesConst
import Derived.Test.YtidlhajibjnkeaaDoorSignAt
import Derived.Laws.IdiomStrings
import Derived.Test.YtidlhajibjnkeaaDoorJMay
import Derived.Test.YtidlhajibjnkeaaDoorJFew
import Derived.Test.YtidlhajibjnkeaaDoorJCut
import Derived.Test.YtidlhajibjnkeaaDoorJLa
import Derived.Test.YtidlhajibjnkeaaDoorJLb
import Derived.Deep.CutRange
namespace Go.Proofs.YtidlhajibjnkeaaDoor
open Go.RowKit

theorem TabJ.up {w w1 : World} {B : Nat} (h : TabJ B w) (hb : Below B w w1) (hB : B ≤ w1.heap.size) : TabJ w1.heap.size w1 := fun w' h' => h w' (hb.trans (h'.mono hB))
/-- A row of bytes that was just laid. -/
theorem Rd.rowJ (E : TypeId) (w : World) (l : List UInt8) (hl : l.length ≤ 100000) (z : Nat × Nat) : Rd (w.alloc (.cells (l.map bv).toArray E z)) (.slice (some ⟨w.heap.size, 0, none⟩) l.length l.length) l := by
  refine ⟨_, l.length, rfl, Nat.le_refl _, by unfold maxLen; omega, (fun h => by cases h), fun _ => ⟨w.heap.size, 0, rfl, fun i hi => ?_⟩⟩
  have h := heap_alloc_new w (.cells (l.map bv).toArray E z)
  rw [Nat.zero_add, cell_of_row _ w.heap.size i _ E z h]
  simp [hi]
def jc1 : List UInt8 := [123, 34, 98, 34, 58, 49, 44, 34, 97, 34, 58, 91, 116, 114, 117, 101, 44, 110, 117, 108, 108, 93, 125]
def jv1 : JV := .mk 7 0 [] [] [([97], .mk 6 0 [] [.mk 3 0 [] [] [], .mk 1 0 [] [] []] []), ([98], .mk 4 1 [] [] [])]
theorem par1 : parP jc1 = .ok jv1 23 := by
  have h0 : valP jc1 64 0 = .ok jv1 23 := by
    rw [valP_at (c := 123) rfl (by decide)]
    simp only [casP]
    rw [if_neg (by decide), if_pos trivial, objP_eq]
    have h1 : mesR (valP jc1 63) jc1 0 = .ok [([98], .mk 4 1 [] [] []), ([97], .mk 6 0 [] [.mk 3 0 [] [] [], .mk 1 0 [] [] []] [])] 23 := by kernel_rfl
    have h2 : srtM [([98], .mk 4 1 [] [] []), ([97], .mk 6 0 [] [.mk 3 0 [] [] [], .mk 1 0 [] [] []] [])] = [([97], .mk 6 0 [] [.mk 3 0 [] [] [], .mk 1 0 [] [] []] []), ([98], .mk 4 1 [] [] [])] :=
      (srt_eq (List.Perm.swap _ _ _) (by simp [Op.bytesLess]) (by simp)).symm
    rw [h1]
    show objV (.ok (srtM _) 23) = _
    rw [h2]
    rfl
  unfold parP
  rw [if_neg (by decide), h0]
  dsimp only
  rw [if_neg (by decide)]
  rfl
theorem par2 : parP [49, 46, 53] = .err 4 := by kernel_rfl
theorem par3 : parP [123, 34, 97, 34, 58, 49, 44, 34, 97, 34, 58, 50, 125] = .err 4 := by kernel_rfl
theorem may1 : mayV jv1 64 = true := by kernel_rfl
theorem pr1 : prV jv1 = [123, 34, 97, 34, 58, 91, 116, 114, 117, 101, 44, 110, 117, 108, 108, 93, 44, 34, 98, 34, 58, 49, 125] := by
  have e : Lib.itoa 1 = [49] := by
    rw [Lib.itoa, if_neg (by decide)]
    exact Lib.decDigits_one (by decide)
  have e2 : prV (.mk 4 1 [] [] []) = [49] := e
  simp [jv1, prV, prU, prT, e, quo, qbL, qb, shB]
set_option maxRecDepth 100000 in
set_option maxHeartbeats 2000000 in
theorem jfirst_any (w : World) (ht : TabJ w.heap.size w) : Calls Tryd.prog 8 #[] w fun e w' => e = .returned (.bool true) ∧ Below w.heap.size w w' := by
  have C1 : Hid (∀ W : World, Calls Tryd.prog 12 #[.slice (some ⟨W.heap.size, 0, none⟩) 23 23] (W.alloc (.cells #[.int .u8 123, .int .u8 34, .int .u8 98, .int .u8 34, .int .u8 58, .int .u8 49, .int .u8 44, .int .u8 34, .int .u8 97, .int .u8 34, .int .u8 58, .int .u8 91, .int .u8 116, .int .u8 114, .int .u8 117, .int .u8 101, .int .u8 44, .int .u8 110, .int .u8 117, .int .u8 108, .int .u8 108, .int .u8 93, .int .u8 125] 5 (23, 23 + 1))) (ParJ (W.alloc (.cells #[.int .u8 123, .int .u8 34, .int .u8 98, .int .u8 34, .int .u8 58, .int .u8 49, .int .u8 44, .int .u8 34, .int .u8 97, .int .u8 34, .int .u8 58, .int .u8 91, .int .u8 116, .int .u8 114, .int .u8 117, .int .u8 101, .int .u8 44, .int .u8 110, .int .u8 117, .int .u8 108, .int .u8 108, .int .u8 93, .int .u8 125] 5 (23, 23 + 1))) (.ok jv1 23))) := Lib.hid (fun W => by
    have h := parse_any (Rd.rowJ 5 W jc1 (by decide) (23, 23 + 1)) (by decide)
    rw [par1] at h
    exact h)
  have C2 : Hid (∀ W : World, Calls Tryd.prog 12 #[.slice (some ⟨W.heap.size, 0, none⟩) 3 3] (W.alloc (.cells #[.int .u8 49, .int .u8 46, .int .u8 53] 5 (3, 3 + 1))) (ParJ (W.alloc (.cells #[.int .u8 49, .int .u8 46, .int .u8 53] 5 (3, 3 + 1))) (.err 4))) := Lib.hid (fun W => by
    have h := parse_any (Rd.rowJ 5 W [49, 46, 53] (by decide) (3, 3 + 1)) (by decide)
    rw [par2] at h
    exact h)
  have C3 : Hid (∀ W : World, Calls Tryd.prog 12 #[.slice (some ⟨W.heap.size, 0, none⟩) 13 13] (W.alloc (.cells #[.int .u8 123, .int .u8 34, .int .u8 97, .int .u8 34, .int .u8 58, .int .u8 49, .int .u8 44, .int .u8 34, .int .u8 97, .int .u8 34, .int .u8 58, .int .u8 50, .int .u8 125] 5 (13, 13 + 1))) (ParJ (W.alloc (.cells #[.int .u8 123, .int .u8 34, .int .u8 97, .int .u8 34, .int .u8 58, .int .u8 49, .int .u8 44, .int .u8 34, .int .u8 97, .int .u8 34, .int .u8 58, .int .u8 50, .int .u8 125] 5 (13, 13 + 1))) (.err 4))) := Lib.hid (fun W => by
    have h := parse_any (Rd.rowJ 5 W [123, 34, 97, 34, 58, 49, 44, 34, 97, 34, 58, 50, 125] (by decide) (13, 13 + 1)) (by decide)
    rw [par3] at h
    exact h)
  have HT := Lib.hid ht
  clear ht
  have kc := fun (w : World) (C : Array Value) (n c : Nat) => Lib.run_convert_bytes_const (P := Tryd.prog) w 26 5 C n c Tryd.underlying26 Tryd.underlying5
  go_enter Tryd.func8, Tryd.ntmps8
  go_wp2_with fail
  refine (C1.out w).mono ?_
  rintro e w1 ⟨cs, rfl, hv, hb⟩
  have hb1 := (below_alloc w _).trans (hb.mono (by simp))
  obtain ⟨al, ll, cl, am, lm, cm, rfl, _, _⟩ := hv.open
  obtain ⟨W2, hW2⟩ : ∃ W2, W2 = w1.alloc (.cells #[.int .i64 jv1.kind, .int .i64 jv1.n, str jv1.s, .slice al ll cl, .slice am lm cm] 25) := ⟨_, rfl⟩
  have hb2 : Below w.heap.size w W2 := by rw [hW2]; exact hb1.trans ((below_alloc w1 _).mono hb1.size)
  have hv1 := hv.mono (G := fun _ => True) (fun _ _ _ => trivial)
  have hv2 := hv1.up (show Below w1.heap.size w1 W2 by rw [hW2]; exact below_alloc w1 _)
  have CP := Lib.hid (print_yes hv2 may1 (by rw [pr1]; decide) (HT.out.up hb2 hb2.size))
  have HB2 := Lib.hid hb2
  clear hb hb1 hb2 hv hv1 hv2
  go_wp2_with fail
  rw [← hW2]
  clear hW2
  refine CP.out.mono ?_
  rintro e w3 ⟨v3, rfl, hown, hb3⟩
  rw [pr1] at hown
  obtain ⟨a3, n3, c3, rfl⟩ := hown.form
  have HR3 := Lib.hid hown.rd
  have HB3 := Lib.hid (HB2.out.trans (hb3.mono HB2.out.size))
  clear hown hb3 CP HB2
  go_wp2_with fail
  refine (C2.out w3).mono ?_
  rintro e w4 ⟨rfl, _, hb4⟩
  have hb4' := (below_alloc w3 (.cells #[.int .u8 49, .int .u8 46, .int .u8 53] 5 (3, 3 + 1))).trans (hb4.mono (by simp))
  have HR4 := Lib.hid ((HR3.out.below hb4' (Nat.le_refl _)).alloc (.cells #[.int .i64 0, .int .i64 0, str [], .slice none 0 0, .slice none 0 0] 25))
  have HB4 := Lib.hid ((HB3.out.trans (hb4'.mono HB3.out.size)).alloc (by have := HB3.out.size; have := hb4'.size; omega) (.cells #[.int .i64 0, .int .i64 0, str [], .slice none 0 0, .slice none 0 0] 25))
  clear hb4 hb4' HR3 HB3
  obtain ⟨w5, hw5⟩ : ∃ w5, w5 = w4.alloc (.cells #[.int .i64 0, .int .i64 0, str [], .slice none 0 0, .slice none 0 0] 25) := ⟨_, rfl⟩
  rw [← hw5] at HR4 HB4
  go_upto_region 4 with fail
  rw [← hw5]
  clear hw5
  go_wp2_with fail
  refine (C3.out w5).mono ?_
  rintro e w6 ⟨rfl, _, hb6⟩
  have hb6' := (below_alloc w5 (.cells #[.int .u8 123, .int .u8 34, .int .u8 97, .int .u8 34, .int .u8 58, .int .u8 49, .int .u8 44, .int .u8 34, .int .u8 97, .int .u8 34, .int .u8 58, .int .u8 50, .int .u8 125] 5 (13, 13 + 1))).trans (hb6.mono (by simp))
  have HR6 := Lib.hid ((HR4.out.below hb6' (Nat.le_refl _)).alloc (.cells #[.int .i64 0, .int .i64 0, str [], .slice none 0 0, .slice none 0 0] 25))
  have HB6 := Lib.hid ((HB4.out.trans (hb6'.mono HB4.out.size)).alloc (by have := HB4.out.size; have := hb6'.size; omega) (.cells #[.int .i64 0, .int .i64 0, str [], .slice none 0 0, .slice none 0 0] 25))
  clear hb6 hb6' HR4 HB4
  have hconv := bt.toString Tryd.underlying9 HR6.out
  go_wp2_with fail
  go_ret
  exact ⟨rfl, HB6.out⟩
end Go.Proofs.YtidlhajibjnkeaaDoor
namespace Go.Proofs.YtidlhajibjnkeaaDoor
open Go.RowKit

/-- '[]byte(s)'. -/
theorem bytes_run (l : List UInt8) (W : World) (hl : l.length ≤ 1000000) : ∃ cap w', (convert 9 26 (str l)).run Tryd.prog W = .ok (.slice (some ⟨W.heap.size, 0, none⟩) l.length cap) w' ∧ Rd w' (.slice (some ⟨W.heap.size, 0, none⟩) l.length cap) l ∧ Below W.heap.size W w' := by
  have := run_bytes_of_string (P := Tryd.prog) W 9 26 5 ⟨l.toArray⟩ Tryd.underlying9 Tryd.underlying26 Tryd.underlying5
  have hs : (ByteArray.mk l.toArray).size = l.length := by simp [ByteArray.size]
  rw [hs] at this
  refine ⟨_, _, this, ?_, ?_⟩
  · refine ⟨_, _, rfl, grownCap_ge _ _ _ _, grownCap_le_maxLen _ _ _ _ (by simp only [maxLen]; omega), (fun e => by cases e), fun _ => ⟨W.heap.size, 0, rfl, fun i hi => ?_⟩⟩
    rw [Nat.zero_add, cell_of_row _ W.heap.size i _ 5 _ (heap_alloc_new W.drew _)]
    unfold bytesRow
    rw [Array.getElem?_append_left (by simpa using hi)]
    simp [bv, hi]
  · exact Below.alloc (Below.drewsN (Below.refl _ _) 1) (Nat.le_refl _) _
end Go.Proofs.YtidlhajibjnkeaaDoor
namespace Go.Proofs.YtidlhajibjnkeaaDoor
open Go.RowKit

mutual
def samV : JV → JV → Bool
  | .mk k n s l m, .mk k' n' s' l' m' => (k == k') && (n == n') && (s == s') && samL l l' && samM m m'
def samL : List JV → List JV → Bool
  | [], [] => true
  | v :: t, v' :: t' => samV v v' && samL t t'
  | [], _ :: _ => false
  | _ :: _, [] => false
def samM : List (List UInt8 × JV) → List (List UInt8 × JV) → Bool
  | [], [] => true
  | (a, v) :: t, (a', v') :: t' => ((a == a') && samV v v') && samM t t'
  | [], _ :: _ => false
  | _ :: _, [] => false
end
mutual
theorem samV_eq : ∀ (v v' : JV), samV v v' = true ↔ v = v'
  | .mk k n s l m, .mk k' n' s' l' m' => by
    rw [samV]
    simp only [Bool.and_eq_true, beq_iff_eq, JV.mk.injEq, samL_eq l l', samM_eq m m']
    constructor
    · rintro ⟨⟨⟨⟨h1, h2⟩, h3⟩, h4⟩, h5⟩; exact ⟨h1, h2, h3, h4, h5⟩
    · rintro ⟨h1, h2, h3, h4, h5⟩; exact ⟨⟨⟨⟨h1, h2⟩, h3⟩, h4⟩, h5⟩
theorem samL_eq : ∀ (l l' : List JV), samL l l' = true ↔ l = l'
  | [], [] => by simp [samL]
  | v :: t, v' :: t' => by
    rw [samL]
    simp only [Bool.and_eq_true, List.cons.injEq, samV_eq v v', samL_eq t t']
  | [], _ :: _ => by simp [samL]
  | _ :: _, [] => by simp [samL]
theorem samM_eq : ∀ (l l' : List MemT), samM l l' = true ↔ l = l'
  | [], [] => by simp [samM]
  | (a, v) :: t, (a', v') :: t' => by
    rw [samM]
    simp only [Bool.and_eq_true, beq_iff_eq, List.cons.injEq, Prod.mk.injEq, samV_eq v v', samM_eq t t']
  | [], _ :: _ => by simp [samM]
  | _ :: _, [] => by simp [samM]
end
theorem samV_self (v : JV) : samV v v = true := (samV_eq v v).2 rfl
theorem samL_len {l l' : List JV} (h : l.length ≠ l'.length) : samL l l' = false := by
  cases h2 : samL l l' with
  | false => rfl
  | true => exact absurd (by rw [(samL_eq l l').1 h2]) h
theorem samM_len {l l' : List MemT} (h : l.length ≠ l'.length) : samM l l' = false := by
  cases h2 : samM l l' with
  | false => rfl
  | true => exact absurd (by rw [(samM_eq l l').1 h2]) h
theorem samL_at {l l' : List JV} {k : Nat} (h : k < l.length) (h' : k < l'.length) : samL (l.drop k) (l'.drop k) = (samV l[k] l'[k] && samL (l.drop (k + 1)) (l'.drop (k + 1))) := by
  rw [List.drop_eq_getElem_cons h, List.drop_eq_getElem_cons h', samL]
theorem samM_at {l l' : List MemT} {k : Nat} (h : k < l.length) (h' : k < l'.length) : samM (l.drop k) (l'.drop k) = (((l[k].1 == l'[k].1) && samV l[k].2 l'[k].2) && samM (l.drop (k + 1)) (l'.drop (k + 1))) := by
  rw [List.drop_eq_getElem_cons h, List.drop_eq_getElem_cons h']
  obtain ⟨a, b⟩ := l[k]
  obtain ⟨c, d⟩ := l'[k]
  rfl
/-- What Same tells of two values, wherever they lie. -/
def SamC (v : JV) : Prop := ∀ (v' : JV) (F F' : Nat → Prop) (w : World) (cs cs' : List Value), RdJ w F v cs → RdJ w F' v' cs' →
  Calls Tryd.prog 13 #[.agg cs.toArray, .agg cs'.toArray] w fun e w' => e = .returned (.bool (samV v v')) ∧ Below w.heap.size w w'
set_option maxRecDepth 100000 in
set_option maxHeartbeats 4000000 in
theorem eqL_any (l l' : List JV) (IH : ∀ x ∈ l, SamC x) (F F' : Nat → Prop) (w : World) (al al' : Option Addr) (cl cl' : Nat) (rows rows' : List (List Value)) (h1 : RdFB F 5 w (.slice al l.length cl) rows) (h2 : RdL w F l rows) (h1' : RdFB F' 5 w (.slice al' l'.length cl') rows') (h2' : RdL w F' l' rows') :
    Calls Tryd.prog 23 #[.slice al l.length cl, .slice al' l'.length cl', .func (.func 13) #[] #[]] w fun e w' => e = .returned (.bool (samL l l')) ∧ Below w.heap.size w w' := by
  have g0 : l.length ≤ 9223372036854775807 := h1.lens.2.1
  have g0' : l'.length ≤ 9223372036854775807 := h1'.lens.2.1
  by_cases hlen : l.length = l'.length
  · have n1 : ((l.length : Int) != (l'.length : Int)) = false := by rw [hlen]; exact bne_self_eq_false _
    obtain ⟨R, hR⟩ : ∃ R, R = samL l l' := ⟨_, rfl⟩
    rw [← hR]
    have HR := Lib.hid hR
    have HL := Lib.hid (And.intro h1 (And.intro h2 (And.intro h1' (And.intro h2' IH))))
    have HLE := Lib.hid hlen
    clear h1 h2 h1' h2' IH hR hlen
    go_enter Tryd.func23, Tryd.ntmps23
    go_wp2_with fail
    go_loopw [17] (fun v17 wr => ∃ k : Nat, k ≤ l.length ∧ v17 = .int .i64 (k : Int) ∧ Hid (R = samL (l.drop k) (l'.drop k)) ∧ Hid (Below w.heap.size w wr)) (fun v17 _ => l.length - (intOf v17).toNat)
    case atStart => exact ⟨0, Nat.zero_le _, rfl, Lib.hid (by rw [List.drop_zero, List.drop_zero]; exact HR.out), Lib.hid (Below.refl _ _)⟩
    case round =>
      obtain ⟨k, hk, rfl, HK, HW⟩ := hrel
      by_cases hlt : k < l.length
      · have hlt' : k < l'.length := by have := HLE.out; omega
        have t1 : (k : Int) < (l.length : Int) := by omega
        have t1' : (k : Int) < (l'.length : Int) := by omega
        have t3 : (0 : Int) ≤ (k : Int) := by omega
        obtain ⟨b, off, a, n, c, a', n', c', rfl, _, hbw, hx, c0, c1, c2, c3, c4⟩ := RdJ.part HL.out.1 HL.out.2.1 hlt
        obtain ⟨b2, off2, p, q, r, p', q', r', rfl, _, hbw2, hy, d0, d1, d2, d3, d4⟩ := RdJ.part HL.out.2.2.1 HL.out.2.2.2.1 hlt'
        have HM : Hid (SamC l[k]) := Lib.hid (HL.out.2.2.2.2 _ (List.getElem_mem hlt))
        have HK2 := HK.out
        rw [samL_at hlt hlt'] at HK2
        obtain ⟨x, hxx⟩ : ∃ x, x = l[k] := ⟨_, rfl⟩
        obtain ⟨y, hyy⟩ : ∃ y, y = l'[k] := ⟨_, rfl⟩
        rw [← hxx] at hx c0 c1 c2 HM HK2
        rw [← hyy] at hy d0 d1 d2 HK2
        clear hxx hyy HK
        have e0 : wr.cell? ⟨b, off + k * 5, none⟩ = some (.int .i64 x.kind) := (HW.out.cell (p := ⟨b, off + k * 5, none⟩) hbw).trans c0
        have e1 : wr.cell? ⟨b, off + k * 5 + 1, none⟩ = some (.int .i64 x.n) := (HW.out.cell (p := ⟨b, off + k * 5 + 1, none⟩) hbw).trans c1
        have e2 : wr.cell? ⟨b, off + k * 5 + 2, none⟩ = some (str x.s) := (HW.out.cell (p := ⟨b, off + k * 5 + 2, none⟩) hbw).trans c2
        have e3 : wr.cell? ⟨b, off + k * 5 + 3, none⟩ = some (.slice a n c) := (HW.out.cell (p := ⟨b, off + k * 5 + 3, none⟩) hbw).trans c3
        have e4 : wr.cell? ⟨b, off + k * 5 + 4, none⟩ = some (.slice a' n' c') := (HW.out.cell (p := ⟨b, off + k * 5 + 4, none⟩) hbw).trans c4
        have f0 : wr.cell? ⟨b2, off2 + k * 5, none⟩ = some (.int .i64 y.kind) := (HW.out.cell (p := ⟨b2, off2 + k * 5, none⟩) hbw2).trans d0
        have f1 : wr.cell? ⟨b2, off2 + k * 5 + 1, none⟩ = some (.int .i64 y.n) := (HW.out.cell (p := ⟨b2, off2 + k * 5 + 1, none⟩) hbw2).trans d1
        have f2 : wr.cell? ⟨b2, off2 + k * 5 + 2, none⟩ = some (str y.s) := (HW.out.cell (p := ⟨b2, off2 + k * 5 + 2, none⟩) hbw2).trans d2
        have f3 : wr.cell? ⟨b2, off2 + k * 5 + 3, none⟩ = some (.slice p q r) := (HW.out.cell (p := ⟨b2, off2 + k * 5 + 3, none⟩) hbw2).trans d3
        have f4 : wr.cell? ⟨b2, off2 + k * 5 + 4, none⟩ = some (.slice p' q' r') := (HW.out.cell (p := ⟨b2, off2 + k * 5 + 4, none⟩) hbw2).trans d4
        have hbw3 : b2 < wr.heap.size := Nat.lt_of_lt_of_le hbw2 HW.out.size
        have g0 : (wr.alloc (.cells #[.int .i64 x.kind, .int .i64 x.n, str x.s, .slice a n c, .slice a' n' c'] 25)).cell? ⟨b2, off2 + k * 5, none⟩ = some (.int .i64 y.kind) := (((Below.refl wr.heap.size wr).alloc (Nat.le_refl _) (.cells #[.int .i64 x.kind, .int .i64 x.n, str x.s, .slice a n c, .slice a' n' c'] 25)).cell (p := ⟨b2, off2 + k * 5, none⟩) hbw3).trans f0
        have g1 : (wr.alloc (.cells #[.int .i64 x.kind, .int .i64 x.n, str x.s, .slice a n c, .slice a' n' c'] 25)).cell? ⟨b2, off2 + k * 5 + 1, none⟩ = some (.int .i64 y.n) := (((Below.refl wr.heap.size wr).alloc (Nat.le_refl _) (.cells #[.int .i64 x.kind, .int .i64 x.n, str x.s, .slice a n c, .slice a' n' c'] 25)).cell (p := ⟨b2, off2 + k * 5 + 1, none⟩) hbw3).trans f1
        have g2 : (wr.alloc (.cells #[.int .i64 x.kind, .int .i64 x.n, str x.s, .slice a n c, .slice a' n' c'] 25)).cell? ⟨b2, off2 + k * 5 + 2, none⟩ = some (str y.s) := (((Below.refl wr.heap.size wr).alloc (Nat.le_refl _) (.cells #[.int .i64 x.kind, .int .i64 x.n, str x.s, .slice a n c, .slice a' n' c'] 25)).cell (p := ⟨b2, off2 + k * 5 + 2, none⟩) hbw3).trans f2
        have g3 : (wr.alloc (.cells #[.int .i64 x.kind, .int .i64 x.n, str x.s, .slice a n c, .slice a' n' c'] 25)).cell? ⟨b2, off2 + k * 5 + 3, none⟩ = some (.slice p q r) := (((Below.refl wr.heap.size wr).alloc (Nat.le_refl _) (.cells #[.int .i64 x.kind, .int .i64 x.n, str x.s, .slice a n c, .slice a' n' c'] 25)).cell (p := ⟨b2, off2 + k * 5 + 3, none⟩) hbw3).trans f3
        have g4 : (wr.alloc (.cells #[.int .i64 x.kind, .int .i64 x.n, str x.s, .slice a n c, .slice a' n' c'] 25)).cell? ⟨b2, off2 + k * 5 + 4, none⟩ = some (.slice p' q' r') := (((Below.refl wr.heap.size wr).alloc (Nat.le_refl _) (.cells #[.int .i64 x.kind, .int .i64 x.n, str x.s, .slice a n c, .slice a' n' c'] 25)).cell (p := ⟨b2, off2 + k * 5 + 4, none⟩) hbw3).trans f4
        obtain ⟨W2, hW2⟩ : ∃ W2, W2 = (wr.alloc (.cells #[.int .i64 x.kind, .int .i64 x.n, str x.s, .slice a n c, .slice a' n' c'] 25)).alloc (.cells #[.int .i64 y.kind, .int .i64 y.n, str y.s, .slice p q r, .slice p' q' r'] 25) := ⟨_, rfl⟩
        have hb2 : Below wr.heap.size wr W2 := by rw [hW2]; exact ((Below.refl _ _).alloc (Nat.le_refl _) _).alloc (by simp) _
        have HW2 := Lib.hid (And.intro (HW.out.trans (hb2.mono HW.out.size)) (Nat.le_trans HW.out.size hb2.size))
        have CM : Hid (Calls Tryd.prog 13 #[.agg #[.int .i64 x.kind, .int .i64 x.n, str x.s, .slice a n c, .slice a' n' c'], .agg #[.int .i64 y.kind, .int .i64 y.n, str y.s, .slice p q r, .slice p' q' r']] W2 fun e w' => e = .returned (.bool (samV x y)) ∧ Below W2.heap.size W2 w') := Lib.hid (HM.out y _ _ W2 _ _ ((hx.up HW.out).up hb2) ((hy.up HW.out).up hb2))
        clear hx hy c0 c1 c2 c3 c4 d0 d1 d2 d3 d4 hbw hbw2 hb2
        cases hB : samV x y with
        | false =>
          have HE : Hid (R = false) := Lib.hid (by rw [HK2, hB]; rfl)
          rw [hB] at CM
          clear hB HK2
          go_wp2_with fail
          rw [← hW2]
          clear hW2
          refine CM.out.mono ?_
          rintro e w3 ⟨rfl, hb3⟩
          have HX := Lib.hid (HW2.out.1.trans (hb3.mono HW2.out.2))
          clear hb3 CM
          go_wp2_with fail
          go_ret
          exact ⟨by rw [HE.out]; rfl, HX.out⟩
        | true =>
          have HE : Hid (R = samL (l.drop (k + 1)) (l'.drop (k + 1))) := Lib.hid (by rw [HK2, hB, Bool.true_and])
          rw [hB] at CM
          clear hB HK2
          go_wp2_with fail
          rw [← hW2]
          clear hW2
          refine CM.out.mono ?_
          rintro e w3 ⟨rfl, hb3⟩
          have HX := Lib.hid (HW2.out.1.trans (hb3.mono HW2.out.2))
          clear hb3 CM
          go_wp2_with fail
          go_roundw
          case rel => exact ⟨k + 1, by omega, by go_num, HE, HX⟩
          case measure => simp [intOf]; omega
      · obtain rfl : k = l.length := by omega
        have t2 : ¬ (l.length : Int) < (l.length : Int) := by omega
        have HE : Hid (R = true) := Lib.hid (by rw [HK.out, List.drop_length, HLE.out, List.drop_length]; rfl)
        go_wp2_with fail
        go_ret
        exact ⟨by rw [HE.out]; rfl, HW.out⟩
  · have n1 : ((l.length : Int) != (l'.length : Int)) = true := by rw [bne_iff_ne]; omega
    rw [samL_len hlen]
    clear h1 h2 h1' h2' IH hlen
    go_enter Tryd.func23, Tryd.ntmps23
    go_wp2_with fail
    go_ret
    exact ⟨rfl, Below.refl _ _⟩
set_option maxHeartbeats 2000000 in
theorem sameMem_any (nm nm2 : List UInt8) (x y : JV) (IH : SamC x) (F F' : Nat → Prop) (w : World) (a : Option Addr) (n c : Nat) (a' : Option Addr) (n' c' : Nat) (p : Option Addr) (q r : Nat) (p' : Option Addr) (q' r' : Nat)
    (hx : RdJ w F x [.int .i64 x.kind, .int .i64 x.n, str x.s, .slice a n c, .slice a' n' c']) (hy : RdJ w F' y [.int .i64 y.kind, .int .i64 y.n, str y.s, .slice p q r, .slice p' q' r']) :
    Calls Tryd.prog 25 #[.agg #[str nm, .int .i64 x.kind, .int .i64 x.n, str x.s, .slice a n c, .slice a' n' c'], .agg #[str nm2, .int .i64 y.kind, .int .i64 y.n, str y.s, .slice p q r, .slice p' q' r']] w fun e w' => e = .returned (.bool ((nm == nm2) && samV x y)) ∧ Below w.heap.size w w' := by
  obtain ⟨W2, hW2⟩ : ∃ W2, W2 = (w.alloc (.cells #[str nm, .int .i64 x.kind, .int .i64 x.n, str x.s, .slice a n c, .slice a' n' c'] 55)).alloc (.cells #[str nm2, .int .i64 y.kind, .int .i64 y.n, str y.s, .slice p q r, .slice p' q' r'] 55) := ⟨_, rfl⟩
  have hb2 : Below w.heap.size w W2 := by rw [hW2]; exact ((Below.refl _ _).alloc (Nat.le_refl _) _).alloc (by simp) _
  have CM := Lib.hid (IH y _ _ W2 _ _ (hx.up hb2) (hy.up hb2))
  have HB := Lib.hid hb2
  clear hx hy IH hb2
  cases hq : (nm == nm2) with
  | false =>
    go_enter Tryd.func25, Tryd.ntmps25
    go_wp2_with fail
    rw [← hW2]
    go_ret
    exact ⟨rfl, HB.out⟩
  | true =>
    rw [Bool.true_and]
    go_enter Tryd.func25, Tryd.ntmps25
    go_wp2_with fail
    rw [← hW2]
    refine CM.out.mono ?_
    rintro e w3 ⟨rfl, hb3⟩
    have HX := Lib.hid (HB.out.trans (hb3.mono HB.out.size))
    clear hb3 CM
    go_wp2_with fail
    go_ret
    exact ⟨rfl, HX.out⟩
set_option maxRecDepth 100000 in
set_option maxHeartbeats 4000000 in
theorem eqM_any (l l' : List MemT) (IH : ∀ x ∈ l, SamC x.2) (F F' : Nat → Prop) (w : World) (al al' : Option Addr) (cl cl' : Nat) (rows rows' : List (List Value)) (h1 : RdFB F 6 w (.slice al l.length cl) rows) (h2 : RdM w F l rows) (h1' : RdFB F' 6 w (.slice al' l'.length cl') rows') (h2' : RdM w F' l' rows') :
    Calls Tryd.prog 24 #[.slice al l.length cl, .slice al' l'.length cl', .func (.func 25) #[] #[]] w fun e w' => e = .returned (.bool (samM l l')) ∧ Below w.heap.size w w' := by
  have g0 : l.length ≤ 9223372036854775807 := h1.lens.2.1
  have g0' : l'.length ≤ 9223372036854775807 := h1'.lens.2.1
  by_cases hlen : l.length = l'.length
  · have n1 : ((l.length : Int) != (l'.length : Int)) = false := by rw [hlen]; exact bne_self_eq_false _
    obtain ⟨R, hR⟩ : ∃ R, R = samM l l' := ⟨_, rfl⟩
    rw [← hR]
    have HR := Lib.hid hR
    have HL := Lib.hid (And.intro h1 (And.intro h2 (And.intro h1' (And.intro h2' IH))))
    have HLE := Lib.hid hlen
    clear h1 h2 h1' h2' IH hR hlen
    go_enter Tryd.func24, Tryd.ntmps24
    go_wp2_with fail
    go_loopw [17] (fun v17 wr => ∃ k : Nat, k ≤ l.length ∧ v17 = .int .i64 (k : Int) ∧ Hid (R = samM (l.drop k) (l'.drop k)) ∧ Hid (Below w.heap.size w wr)) (fun v17 _ => l.length - (intOf v17).toNat)
    case atStart => exact ⟨0, Nat.zero_le _, rfl, Lib.hid (by rw [List.drop_zero, List.drop_zero]; exact HR.out), Lib.hid (Below.refl _ _)⟩
    case round =>
      obtain ⟨k, hk, rfl, HK, HW⟩ := hrel
      by_cases hlt : k < l.length
      · have hlt' : k < l'.length := by have := HLE.out; omega
        have t1 : (k : Int) < (l.length : Int) := by omega
        have t1' : (k : Int) < (l'.length : Int) := by omega
        have t3 : (0 : Int) ≤ (k : Int) := by omega
        obtain ⟨b, off, a, n, c, a', n', c', rfl, _, hbw, hx, c0, c1, c2, c3, c4, c5⟩ := RdJ.memb HL.out.1 HL.out.2.1 hlt
        obtain ⟨b2, off2, p, q, r, p', q', r', rfl, _, hbw2, hy, d0, d1, d2, d3, d4, d5⟩ := RdJ.memb HL.out.2.2.1 HL.out.2.2.2.1 hlt'
        have HM : Hid (SamC l[k].2) := Lib.hid (HL.out.2.2.2.2 _ (List.getElem_mem hlt))
        have HK2 := HK.out
        rw [samM_at hlt hlt'] at HK2
        obtain ⟨x, hxx⟩ : ∃ x, x = l[k] := ⟨_, rfl⟩
        obtain ⟨y, hyy⟩ : ∃ y, y = l'[k] := ⟨_, rfl⟩
        rw [← hxx] at hx c0 c1 c2 c3 HM HK2
        rw [← hyy] at hy d0 d1 d2 d3 HK2
        clear hxx hyy HK
        obtain ⟨nm, x⟩ := x
        obtain ⟨nm2, y⟩ := y
        dsimp only at hx hy HM HK2 c0 c1 c2 c3 d0 d1 d2 d3
        have e0 : wr.cell? ⟨b, off + k * 6, none⟩ = some (str nm) := (HW.out.cell (p := ⟨b, off + k * 6, none⟩) hbw).trans c0
        have e1 : wr.cell? ⟨b, off + k * 6 + 1, none⟩ = some (.int .i64 x.kind) := (HW.out.cell (p := ⟨b, off + k * 6 + 1, none⟩) hbw).trans c1
        have e2 : wr.cell? ⟨b, off + k * 6 + 2, none⟩ = some (.int .i64 x.n) := (HW.out.cell (p := ⟨b, off + k * 6 + 2, none⟩) hbw).trans c2
        have e3 : wr.cell? ⟨b, off + k * 6 + 3, none⟩ = some (str x.s) := (HW.out.cell (p := ⟨b, off + k * 6 + 3, none⟩) hbw).trans c3
        have e4 : wr.cell? ⟨b, off + k * 6 + 4, none⟩ = some (.slice a n c) := (HW.out.cell (p := ⟨b, off + k * 6 + 4, none⟩) hbw).trans c4
        have e5 : wr.cell? ⟨b, off + k * 6 + 5, none⟩ = some (.slice a' n' c') := (HW.out.cell (p := ⟨b, off + k * 6 + 5, none⟩) hbw).trans c5
        have f0 : wr.cell? ⟨b2, off2 + k * 6, none⟩ = some (str nm2) := (HW.out.cell (p := ⟨b2, off2 + k * 6, none⟩) hbw2).trans d0
        have f1 : wr.cell? ⟨b2, off2 + k * 6 + 1, none⟩ = some (.int .i64 y.kind) := (HW.out.cell (p := ⟨b2, off2 + k * 6 + 1, none⟩) hbw2).trans d1
        have f2 : wr.cell? ⟨b2, off2 + k * 6 + 2, none⟩ = some (.int .i64 y.n) := (HW.out.cell (p := ⟨b2, off2 + k * 6 + 2, none⟩) hbw2).trans d2
        have f3 : wr.cell? ⟨b2, off2 + k * 6 + 3, none⟩ = some (str y.s) := (HW.out.cell (p := ⟨b2, off2 + k * 6 + 3, none⟩) hbw2).trans d3
        have f4 : wr.cell? ⟨b2, off2 + k * 6 + 4, none⟩ = some (.slice p q r) := (HW.out.cell (p := ⟨b2, off2 + k * 6 + 4, none⟩) hbw2).trans d4
        have f5 : wr.cell? ⟨b2, off2 + k * 6 + 5, none⟩ = some (.slice p' q' r') := (HW.out.cell (p := ⟨b2, off2 + k * 6 + 5, none⟩) hbw2).trans d5
        have hbw3 : b2 < wr.heap.size := Nat.lt_of_lt_of_le hbw2 HW.out.size
        have g0 : (wr.alloc (.cells #[str nm, .int .i64 x.kind, .int .i64 x.n, str x.s, .slice a n c, .slice a' n' c'] 55)).cell? ⟨b2, off2 + k * 6, none⟩ = some (str nm2) := (((Below.refl wr.heap.size wr).alloc (Nat.le_refl _) (.cells #[str nm, .int .i64 x.kind, .int .i64 x.n, str x.s, .slice a n c, .slice a' n' c'] 55)).cell (p := ⟨b2, off2 + k * 6, none⟩) hbw3).trans f0
        have g1 : (wr.alloc (.cells #[str nm, .int .i64 x.kind, .int .i64 x.n, str x.s, .slice a n c, .slice a' n' c'] 55)).cell? ⟨b2, off2 + k * 6 + 1, none⟩ = some (.int .i64 y.kind) := (((Below.refl wr.heap.size wr).alloc (Nat.le_refl _) (.cells #[str nm, .int .i64 x.kind, .int .i64 x.n, str x.s, .slice a n c, .slice a' n' c'] 55)).cell (p := ⟨b2, off2 + k * 6 + 1, none⟩) hbw3).trans f1
        have g2 : (wr.alloc (.cells #[str nm, .int .i64 x.kind, .int .i64 x.n, str x.s, .slice a n c, .slice a' n' c'] 55)).cell? ⟨b2, off2 + k * 6 + 2, none⟩ = some (.int .i64 y.n) := (((Below.refl wr.heap.size wr).alloc (Nat.le_refl _) (.cells #[str nm, .int .i64 x.kind, .int .i64 x.n, str x.s, .slice a n c, .slice a' n' c'] 55)).cell (p := ⟨b2, off2 + k * 6 + 2, none⟩) hbw3).trans f2
        have g3 : (wr.alloc (.cells #[str nm, .int .i64 x.kind, .int .i64 x.n, str x.s, .slice a n c, .slice a' n' c'] 55)).cell? ⟨b2, off2 + k * 6 + 3, none⟩ = some (str y.s) := (((Below.refl wr.heap.size wr).alloc (Nat.le_refl _) (.cells #[str nm, .int .i64 x.kind, .int .i64 x.n, str x.s, .slice a n c, .slice a' n' c'] 55)).cell (p := ⟨b2, off2 + k * 6 + 3, none⟩) hbw3).trans f3
        have g4 : (wr.alloc (.cells #[str nm, .int .i64 x.kind, .int .i64 x.n, str x.s, .slice a n c, .slice a' n' c'] 55)).cell? ⟨b2, off2 + k * 6 + 4, none⟩ = some (.slice p q r) := (((Below.refl wr.heap.size wr).alloc (Nat.le_refl _) (.cells #[str nm, .int .i64 x.kind, .int .i64 x.n, str x.s, .slice a n c, .slice a' n' c'] 55)).cell (p := ⟨b2, off2 + k * 6 + 4, none⟩) hbw3).trans f4
        have g5 : (wr.alloc (.cells #[str nm, .int .i64 x.kind, .int .i64 x.n, str x.s, .slice a n c, .slice a' n' c'] 55)).cell? ⟨b2, off2 + k * 6 + 5, none⟩ = some (.slice p' q' r') := (((Below.refl wr.heap.size wr).alloc (Nat.le_refl _) (.cells #[str nm, .int .i64 x.kind, .int .i64 x.n, str x.s, .slice a n c, .slice a' n' c'] 55)).cell (p := ⟨b2, off2 + k * 6 + 5, none⟩) hbw3).trans f5
        obtain ⟨W2, hW2⟩ : ∃ W2, W2 = (wr.alloc (.cells #[str nm, .int .i64 x.kind, .int .i64 x.n, str x.s, .slice a n c, .slice a' n' c'] 55)).alloc (.cells #[str nm2, .int .i64 y.kind, .int .i64 y.n, str y.s, .slice p q r, .slice p' q' r'] 55) := ⟨_, rfl⟩
        have hb2 : Below wr.heap.size wr W2 := by rw [hW2]; exact ((Below.refl _ _).alloc (Nat.le_refl _) _).alloc (by simp) _
        have HW2 := Lib.hid (And.intro (HW.out.trans (hb2.mono HW.out.size)) (Nat.le_trans HW.out.size hb2.size))
        have CM : Hid (Calls Tryd.prog 25 #[.agg #[str nm, .int .i64 x.kind, .int .i64 x.n, str x.s, .slice a n c, .slice a' n' c'], .agg #[str nm2, .int .i64 y.kind, .int .i64 y.n, str y.s, .slice p q r, .slice p' q' r']] W2 fun e w' => e = .returned (.bool (((nm == nm2) && samV x y))) ∧ Below W2.heap.size W2 w') := Lib.hid (sameMem_any nm nm2 x y HM.out _ _ W2 a n c a' n' c' p q r p' q' r' ((hx.up HW.out).up hb2) ((hy.up HW.out).up hb2))
        clear hx hy c0 c1 c2 c3 c4 c5 d0 d1 d2 d3 d4 d5 hbw hbw2 hb2
        cases hB : ((nm == nm2) && samV x y) with
        | false =>
          have HE : Hid (R = false) := Lib.hid (by rw [HK2, hB]; rfl)
          rw [hB] at CM
          clear hB HK2
          go_wp2_with fail
          rw [← hW2]
          clear hW2
          refine CM.out.mono ?_
          rintro e w3 ⟨rfl, hb3⟩
          have HX := Lib.hid (HW2.out.1.trans (hb3.mono HW2.out.2))
          clear hb3 CM
          go_wp2_with fail
          go_ret
          exact ⟨by rw [HE.out]; rfl, HX.out⟩
        | true =>
          have HE : Hid (R = samM (l.drop (k + 1)) (l'.drop (k + 1))) := Lib.hid (by rw [HK2, hB, Bool.true_and])
          rw [hB] at CM
          clear hB HK2
          go_wp2_with fail
          rw [← hW2]
          clear hW2
          refine CM.out.mono ?_
          rintro e w3 ⟨rfl, hb3⟩
          have HX := Lib.hid (HW2.out.1.trans (hb3.mono HW2.out.2))
          clear hb3 CM
          go_wp2_with fail
          go_roundw
          case rel => exact ⟨k + 1, by omega, by go_num, HE, HX⟩
          case measure => simp [intOf]; omega
      · obtain rfl : k = l.length := by omega
        have t2 : ¬ (l.length : Int) < (l.length : Int) := by omega
        have HE : Hid (R = true) := Lib.hid (by rw [HK.out, List.drop_length, HLE.out, List.drop_length]; rfl)
        go_wp2_with fail
        go_ret
        exact ⟨by rw [HE.out]; rfl, HW.out⟩
  · have n1 : ((l.length : Int) != (l'.length : Int)) = true := by rw [bne_iff_ne]; omega
    rw [samM_len hlen]
    clear h1 h2 h1' h2' IH hlen
    go_enter Tryd.func24, Tryd.ntmps24
    go_wp2_with fail
    go_ret
    exact ⟨rfl, Below.refl _ _⟩
theorem samV_mk (v z : JV) : samV v z = ((v.kind == z.kind) && (v.n == z.n) && (v.s == z.s) && samL v.l z.l && samM v.m z.m) := by
  obtain ⟨k, n, s, l, m⟩ := v
  obtain ⟨k', n', s', l', m'⟩ := z
  rw [samV]
  rfl
set_option maxRecDepth 100000 in
set_option maxHeartbeats 4000000 in
theorem sam_step (v : JV) (IHL : ∀ x ∈ v.l, SamC x) (IHM : ∀ x ∈ v.m, SamC x.2) : SamC v := by
  intro z F F' w cs cs' h h'
  obtain ⟨al, ll, cl, am, lm, cm, rfl, ⟨rl, hrl, hll, rfl⟩, rm, hrm, hmm, rfl⟩ := h.open
  obtain ⟨al2, ll2, cl2, am2, lm2, cm2, rfl, ⟨rl2, hrl2, hll2, rfl⟩, rm2, hrm2, hmm2, rfl⟩ := h'.open
  obtain ⟨W2, hW2⟩ : ∃ W2, W2 = (w.alloc (.cells #[.int .i64 v.kind, .int .i64 v.n, str v.s, .slice al v.l.length cl, .slice am v.m.length cm] 25)).alloc (.cells #[.int .i64 z.kind, .int .i64 z.n, str z.s, .slice al2 z.l.length cl2, .slice am2 z.m.length cm2] 25) := ⟨_, rfl⟩
  have hb2 : Below w.heap.size w W2 := by rw [hW2]; exact ((Below.refl _ _).alloc (Nat.le_refl _) _).alloc (by simp) _
  have HB : Hid (Below w.heap.size w W2 ∧ W2.heap[w.heap.size]? = some (.cells #[.int .i64 v.kind, .int .i64 v.n, str v.s, .slice al v.l.length cl, .slice am v.m.length cm] 25 (0, 0)) ∧ W2.heap[w.heap.size + 1]? = some (.cells #[.int .i64 z.kind, .int .i64 z.n, str z.s, .slice al2 z.l.length cl2, .slice am2 z.m.length cm2] 25 (0, 0))) := Lib.hid ⟨hb2, by rw [hW2]; exact box_up (heap_alloc_new w _) (below_alloc _ _), by
    rw [hW2]
    have := heap_alloc_new (w.alloc (.cells #[.int .i64 v.kind, .int .i64 v.n, str v.s, .slice al v.l.length cl, .slice am v.m.length cm] 25)) (.cells #[.int .i64 z.kind, .int .i64 z.n, str z.s, .slice al2 z.l.length cl2, .slice am2 z.m.length cm2] 25)
    simpa using this⟩
  have fr : Frm (fun _ => False) w W2 := Frm.of_below hb2
  have CL := Lib.hid (eqL_any v.l z.l IHL F F' W2 al al2 cl cl2 _ _ (hrl.frm fr (fun _ _ e => e)) (hll.frm fr (fun _ _ e => e)) (hrl2.frm fr (fun _ _ e => e)) (hll2.frm fr (fun _ _ e => e)))
  have CM := Lib.hid (fun (W : World) (hb : Below W2.heap.size W2 W) => eqM_any v.m z.m IHM F F' W am am2 cm cm2 _ _ ((hrm.frm fr (fun _ _ e => e)).frm (Frm.of_below (F := fun _ => False) hb) (fun _ _ e => e)) ((hmm.frm fr (fun _ _ e => e)).up hb) ((hrm2.frm fr (fun _ _ e => e)).frm (Frm.of_below (F := fun _ => False) hb) (fun _ _ e => e)) ((hmm2.frm fr (fun _ _ e => e)).up hb))
  rw [samV_mk]
  clear h h' hrl hll hrm hmm hrl2 hll2 hrm2 hmm2 hb2 fr IHL IHM
  cases q1 : (v.kind == z.kind) with
  | false =>
    go_enter Tryd.func13, Tryd.ntmps13
    go_wp2_with fail
    rw [← hW2]
    go_ret
    exact ⟨rfl, HB.out.1⟩
  | true =>
    cases q2 : (v.n == z.n) with
    | false =>
      go_enter Tryd.func13, Tryd.ntmps13
      go_wp2_with fail
      rw [← hW2]
      go_ret
      exact ⟨rfl, HB.out.1⟩
    | true =>
      cases q3 : (v.s == z.s) with
      | false =>
        go_enter Tryd.func13, Tryd.ntmps13
        go_wp2_with fail
        rw [← hW2]
        go_ret
        exact ⟨rfl, HB.out.1⟩
      | true =>
        simp only [Bool.true_and]
        cases q4 : samL v.l z.l with
        | false =>
          rw [q4] at CL
          clear q4 CM
          go_enter Tryd.func13, Tryd.ntmps13
          go_wp2_with fail
          rw [← hW2]
          refine CL.out.mono ?_
          rintro e w3 ⟨rfl, hb3⟩
          have HX := Lib.hid (HB.out.1.trans (hb3.mono HB.out.1.size))
          clear hb3 CL
          go_wp2_with fail
          go_ret
          exact ⟨rfl, HX.out⟩
        | true =>
          rw [q4] at CL
          rw [Bool.true_and]
          obtain ⟨R, hR⟩ : ∃ R, R = samM v.m z.m := ⟨_, rfl⟩
          rw [← hR] at CM ⊢
          clear q4 hR
          go_enter Tryd.func13, Tryd.ntmps13
          go_wp2_with fail
          rw [← hW2]
          refine CL.out.mono ?_
          rintro e w3 ⟨rfl, hb3⟩
          have HX := Lib.hid (HB.out.1.trans (hb3.mono HB.out.1.size))
          have x4 := box_cell (box_up HB.out.2.1 hb3) 4
          have y4 := box_cell (box_up HB.out.2.2 hb3) 4
          have CM2 := Lib.hid (CM.out w3 hb3)
          clear hb3 CL CM
          go_wp2_with fail
          refine CM2.out.mono ?_
          rintro e w4 ⟨rfl, hb4⟩
          have HY := Lib.hid (HX.out.trans (hb4.mono HX.out.size))
          clear hb4 CM2
          go_wp2_with fail
          go_ret
          exact ⟨rfl, HY.out⟩
theorem same_any (v : JV) : SamC v := JV.ind sam_step v
end Go.Proofs.YtidlhajibjnkeaaDoor
namespace Go.Proofs.YtidlhajibjnkeaaDoor
open Go.RowKit
theorem insU_in (x : List UInt8) : ∀ {l : List (List UInt8)}, RisU l → (x ∈ l → insU x l = l) ∧ (x ∉ l → (insU x l).length = l.length + 1)
  | [], _ => ⟨fun h => by simp at h, fun _ => rfl⟩
  | y :: t, h => by
    obtain ⟨h1, h2⟩ := h
    have ih := insU_in x h2
    refine ⟨fun hx => ?_, fun hx => ?_⟩
    · rw [insU]
      rcases List.mem_cons.1 hx with rfl | hx
      · rw [if_neg (by rw [bl_irr]; simp), if_neg (by rw [bl_irr]; simp)]
      · have hyx := h1 x hx
        have hxy : Op.bytesLess x y = false := by
          cases e : Op.bytesLess x y with
          | false => rfl
          | true => have := bl_tr _ _ _ e hyx; rw [bl_irr] at this; cases this
        rw [if_neg (by rw [hxy]; simp), if_pos hyx, ih.1 hx]
    · simp only [List.mem_cons, not_or] at hx
      rw [insU]
      by_cases e : Op.bytesLess x y = true
      · rw [if_pos e]; rfl
      · by_cases e2 : Op.bytesLess y x = true
        · rw [if_neg e, if_pos e2, List.length_cons, ih.2 hx.2]; rfl
        · exact absurd (bl_tot x y (by simpa using e) (by simpa using e2)) hx.1
theorem insU_all (x z : List UInt8) : ∀ {l : List (List UInt8)}, RisU l → (z ∈ insU x l ↔ z = x ∨ z ∈ l)
  | [], _ => by simp [insU]
  | y :: t, h => by
    obtain ⟨h1, h2⟩ := h
    have ih := insU_all x z h2
    rw [insU]
    by_cases e : Op.bytesLess x y = true
    · rw [if_pos e]; simp
    · by_cases e2 : Op.bytesLess y x = true
      · rw [if_neg e, if_pos e2, List.mem_cons, ih, List.mem_cons]
        constructor
        · rintro (h | h | h) <;> simp [h]
        · rintro (h | h | h) <;> simp [h]
      · have : x = y := bl_tot x y (by simpa using e) (by simpa using e2)
        subst this
        rw [if_neg e, if_neg e2]
        simp
theorem uniq_len : ∀ (l o : List (List UInt8)), RisU o → (l.foldl (fun o x => insU x o) o).length ≤ o.length + l.length ∧ ((l.foldl (fun o x => insU x o) o).length = o.length + l.length ↔ l.Nodup ∧ ∀ x ∈ l, x ∉ o)
  | [], o, _ => by simp
  | x :: t, o, h => by
    have h1 := insU_in x h
    have h2 := insU_ris x h
    obtain ⟨ih1, ih2⟩ := uniq_len t (insU x o) h2
    rw [List.foldl_cons, List.length_cons, List.nodup_cons]
    by_cases hx : x ∈ o
    · have e := h1.1 hx
      rw [e] at ih1 ih2 ⊢
      refine ⟨by omega, ⟨fun hh => by omega, fun hh => absurd hx (hh.2 x (by simp))⟩⟩
    · have e := h1.2 hx
      refine ⟨by omega, ?_⟩
      have e3 : (List.foldl (fun o x => insU x o) (insU x o) t).length = o.length + (t.length + 1) ↔ (List.foldl (fun o x => insU x o) (insU x o) t).length = (insU x o).length + t.length := by omega
      rw [e3, ih2]
      constructor
      · rintro ⟨a, b⟩
        refine ⟨⟨fun hin => b x hin ((insU_all x x h).2 (.inl rfl)), a⟩, fun z hz => ?_⟩
        rcases List.mem_cons.1 hz with rfl | hz
        · exact hx
        · exact fun hin => b z hz ((insU_all x z h).2 (.inr hin))
      · rintro ⟨⟨a, b⟩, c⟩
        refine ⟨b, fun z hz hin => ?_⟩
        rcases (insU_all x z h).1 hin with rfl | hin
        · exact a hz
        · exact c z (by simp [hz]) hin
theorem uniq_iff (l : List (List UInt8)) : ((uniqF l).length : Int) = (l.length : Int) ↔ l.Nodup := by
  have := (uniq_len l [] trivial).2
  simp only [List.length_nil, Nat.zero_add, List.not_mem_nil, not_false_eq_true, implies_true, and_true] at this
  rw [← this]
  unfold uniqF
  omega
/-- How much is counted. -/
def szP : List MemT → Nat
  | [] => 0
  | x :: t => (mmT x).length + 2 + szP t
theorem szP_app : ∀ a b : List MemT, szP (a ++ b) = szP a + szP b
  | [], b => by simp [szP]
  | x :: t, b => by rw [List.cons_append, szP, szP, szP_app t b]; omega
theorem szP_take {P : List MemT} {k : Nat} (h : k < P.length) : szP (P.take (k + 1)) = szP (P.take k) + ((mmT P[k]).length + 2) := by
  rw [List.take_add_one, List.getElem?_eq_getElem h, Option.toList_some, szP_app, szP, szP]
theorem mmT_len (x : MemT) : (mmT x).length = (quo x.1).length + (prV x.2).length + 1 := by simp [mmT]; omega
theorem prT_szP : ∀ P : List MemT, (prT (P.map (fun x => x.2))).length ≤ szP P
  | [] => by simp [prT, szP]
  | x :: t => by
    have := prT_szP t
    have := mmT_len x
    rw [List.map_cons, prT, szP]
    simp
    omega
theorem lsT_szP (P : List MemT) (k : Nat) : (lsT (P.map (fun x => x.2)) k).length ≤ szP (P.take k) := by
  have := prT_szP (P.take k)
  unfold lsT
  rw [← List.map_take, List.length_drop]
  omega
theorem ojR_szP : ∀ P : List MemT, (ojR P).length = szP P + P.length
  | [] => rfl
  | x :: t => by
    have := ojR_szP t
    rw [ojR, szP]
    simp
    omega
theorem ojT_szP (P : List MemT) : (ojT P).length ≤ szP P + P.length := by
  have := ojR_szP P
  unfold ojT
  rw [List.length_drop]
  omega
theorem ojR_app : ∀ a b : List MemT, ojR (a ++ b) = ojR a ++ ojR b
  | [], b => rfl
  | x :: t, b => by rw [List.cons_append, ojR, ojR, ojR_app t b]; simp
theorem ojT_one (x : MemT) : ojT [x] = mmT x := by simp [ojT, ojR]
theorem ojT_snoc {a : List MemT} (x : MemT) (h : a ≠ []) : ojT (a ++ [x]) = ojT a ++ (32 :: 44 :: 10 :: mmT x) := by
  obtain ⟨y, t, rfl⟩ := List.exists_cons_of_ne_nil h
  simp [ojT, ojR, ojR_app]
/-- The members, from another one on. -/
def rotP (P : List MemT) (T : Nat) : List MemT := P.drop (T % P.length) ++ P.take (T % P.length)
theorem rotP_perm (P : List MemT) (T : Nat) : (rotP P T).Perm P := by
  unfold rotP
  have := List.perm_append_comm (l₁ := P.drop (T % P.length)) (l₂ := P.take (T % P.length))
  rw [List.take_append_drop] at this
  exact this
theorem rotP_len (P : List MemT) (T : Nat) : (rotP P T).length = P.length := (rotP_perm P T).length_eq
theorem rotP_sz (P : List MemT) (T : Nat) : szP (rotP P T) = szP P := by
  have h := szP_app (P.take (T % P.length)) (P.drop (T % P.length))
  rw [List.take_append_drop] at h
  unfold rotP
  rw [szP_app]; omega
theorem rotP_at {P : List MemT} {T k : Nat} (h : k < P.length) : (rotP P T)[k]? = P[(k + T) % P.length]? := by
  have ht := Nat.mod_lt T (show P.length > 0 by omega)
  have e0 : (k + T) % P.length = (k + T % P.length) % P.length := by rw [Nat.add_mod_mod]
  rw [e0]
  unfold rotP
  obtain ⟨t, hh⟩ : ∃ t, t = T % P.length := ⟨_, rfl⟩
  rw [← hh] at ht ⊢
  clear hh e0
  by_cases hlt : k < P.length - t
  · rw [List.getElem?_append_left (by rw [List.length_drop]; exact hlt), List.getElem?_drop, Nat.mod_eq_of_lt (by omega), Nat.add_comm]
  · rw [List.getElem?_append_right (by rw [List.length_drop]; omega), List.length_drop, List.getElem?_take_of_lt (by omega), Nat.mod_eq_sub_mod (by omega), Nat.mod_eq_of_lt (by omega)]
    congr 1
    omega
theorem rotP_take {P : List MemT} {T k : Nat} (h : k < P.length) : (rotP P T).take (k + 1) = (rotP P T).take k ++ [P[(k + T) % P.length]'(Nat.mod_lt _ (by omega))] := by
  rw [List.take_add_one, rotP_at h, List.getElem?_eq_getElem (Nat.mod_lt _ (by omega))]
  rfl
theorem szP_take_le (L : List MemT) (k : Nat) : szP (L.take k) ≤ szP L := by
  have h := szP_app (L.take k) (L.drop k)
  rw [List.take_append_drop] at h
  omega
theorem get_srtP {P : List MemT} {T : Nat} {a : List UInt8} {v : JV} (hn : (P.map (fun x => x.1)).Nodup) (h : (a, v) ∈ P) : getJ (.mk 7 0 [] [] (srtM (rotP P T))) a = some v :=
  get_srt (((rotP_perm P T).map _).nodup_iff.2 hn) ((rotP_perm P T).mem_iff.2 h)
theorem szM_perm' {l l' : List MemT} (h : l.Perm l') : szM l = szM l' := by
  induction h with
  | nil => rfl
  | cons x _ ih => obtain ⟨a, v⟩ := x; rw [szM, szM, ih]
  | swap x y t => obtain ⟨a, v⟩ := x; obtain ⟨b, u⟩ := y; rw [szM, szM, szM, szM]; omega
  | trans _ _ h1 h2 => exact h1.trans h2
theorem szM_few : ∀ {P : List MemT}, (∀ x ∈ P, fewB x.2 = true ∧ x.1.length ≤ 100) → szM P ≤ 12100 * P.length
  | [], _ => by simp [szM]
  | (a, v) :: t, h => by
    have ih := szM_few (P := t) (fun x hx => h x (by simp [hx]))
    have h1 := h (a, v) (by simp)
    have h2 := few_sz h1.1
    have h3 := h1.2
    rw [szM]
    simp
    dsimp only at h2 h3
    omega
theorem mayV_txt (s : List UInt8) : mayV (.mk 5 0 s [] []) 64 = txF s := by simp [mayV, fitV, mayL, mayM]
/-- A value in a box. -/
def GotX (w0 : World) (x : JV) (B : Nat) (W : World) : Prop := Below w0.heap.size w0 W ∧ ∃ (q1 : Option Addr) (q2 q3 : Nat) (q4 : Option Addr) (q5 q6 : Nat), W.heap[B]? = some (.cells #[.int .i64 x.kind, .int .i64 x.n, str x.s, .slice q1 q2 q3, .slice q4 q5 q6] 25 (0, 0)) ∧ RdJ W (fun _ => True) x [.int .i64 x.kind, .int .i64 x.n, str x.s, .slice q1 q2 q3, .slice q4 q5 q6]
/-- What the loop over the values keeps. -/
def LsI (w : World) (P : List MemT) (k : Nat) (v : Value) (W : World) : Prop :=
  Below w.heap.size w W ∧ W.ownsRow w.heap.size 9 1 v k (((P.take k).map mmT).map str) ∧ ∀ x ∈ P.take k, fewB x.2 = true ∧ mayV x.2 64 = true ∧ txF x.1 = true ∧ x.1.length ≤ 100
theorem infoS : (Tryd.prog.info? 9).map (fun i => (i.zero, i.size, i.bytes)) = some (some (str []), 1, 16) := by kernel_rfl
attribute [local go_sem] str_cat
set_option maxRecDepth 100000 in
set_option maxHeartbeats 32000000 in
theorem lists_main (vl : Value) (P : List MemT) (rows : List (List Value)) (vn : Value) (turn : Int) (w : World) (h1 : RdFB (fun _ => True) 5 w vl rows) (h2 : RdL w (fun _ => True) (P.map (fun x => x.2)) rows) (h3 : RdV w vn ((P.map (fun x => x.1)).map str))
    (hn : P.length ≤ 12) (ht : 0 ≤ turn ∧ turn ≤ 1000) (hT : TabJ w.heap.size w) :
    Calls Tryd.prog 5 #[vl, vn, .int .i64 turn] w fun e w' => e = .returned (.bool true) ∧ Below w.heap.size w w' := by
  obtain ⟨T, rfl⟩ : ∃ T : Nat, turn = (T : Int) := ⟨turn.toNat, by omega⟩
  have hTT : T ≤ 1000 := by omega
  obtain ⟨al, cl, rfl, hcl1, hcl2⟩ := h1.form
  have hrl : rows.length = P.length := by have := (RdL.rows h2).1; simpa using this
  rw [hrl] at h1 hcl1
  rw [hrl]
  obtain ⟨an, cn, rfl, hln, hcn⟩ := h3
  have HCN := Lib.hid hcn
  have HVN : Hid (RdV w (.slice an P.length cn) ((P.map (fun x => x.1)).map str)) := Lib.hid ⟨an, cn, by simp, by simpa using hln, hcn⟩
  simp only [List.length_map] at hln ⊢
  have HLL := Lib.hid (And.intro h1 h2)
  have HT := Lib.hid hT
  have C1 := Lib.hid (jfirst_any w hT)
  have t1 : decide ((12 : Int) < (P.length : Int)) = false := decide_eq_false (by omega)
  have t2 : ((P.length : Int) != (P.length : Int)) = false := bne_self_eq_false _
  have t3 : decide ((T : Int) < 0) = false := decide_eq_false (by omega)
  have t4 : decide ((1000 : Int) < (T : Int)) = false := decide_eq_false (by omega)
  clear h1 h2 hcn hT ht hrl
  go_enter Tryd.func5, Tryd.ntmps5
  go_wp2_with fail
  refine C1.out.mono ?_
  rintro e w1 ⟨rfl, hb1⟩
  have HB1 := Lib.hid hb1
  clear hb1 C1
  go_wp2_with fail
  obtain ⟨i0, hi, hz0, hz1, hz2⟩ := info_parts infoS
  go_loopw [7, 8, 9, 10] (fun v7 v8 v9 v10 wr => ∃ k : Nat, k ≤ P.length ∧ v7 = str (91 :: lsT (P.map (fun x => x.2)) k) ∧ v9 = .int .i64 (szP (P.take k) : Int) ∧ v10 = .int .i64 (k : Int) ∧ Hid (szP (P.take k) ≤ k * 420010) ∧ Hid (LsI w P k v8 wr)) (fun _ _ _ v10 _ => P.length - (intOf v10).toNat)
  case atStart => exact ⟨0, Nat.zero_le _, rfl, rfl, rfl, Lib.hid (by simp [szP]), Lib.hid ⟨HB1.out.trans ((below_alloc _ _).mono HB1.out.size), by simpa using World.ownsRow_made (e := 9) (size := 1) w1 #[] 0 HB1.out.size (by decide) rfl, by simp⟩⟩
  case round =>
    obtain ⟨v8, hv8⟩ : ∃ v8, v8 = u8 := ⟨_, rfl⟩
    subst hv8
    obtain ⟨k, hk, rfl, rfl, rfl, HS, HI⟩ := hrel
    by_cases hlt : k < P.length
    · have n1 : (k : Int) < (P.length : Int) := by omega
      have n3 : (0 : Int) ≤ (k : Int) := by omega
      have hk12 : k ≤ 11 := by omega
      obtain ⟨b, off, a, n, c, a', n', c', rfl, _, hbw, hx, c0, c1, c2, c3, c4⟩ := RdJ.part HLL.out.1 HLL.out.2 (k := k) (by simpa using hlt)
      obtain ⟨bn, on, rfl, hcn⟩ := HCN.out (by intro e; simp at e; rw [e] at hlt; simp at hlt)
      have d0 := hcn k (by simpa using hlt)
      simp only [List.getElem_map] at hx c0 c1 c2 d0
      have hbn := World.block_lt_of_cell? w _ d0
      obtain ⟨x, hxx⟩ : ∃ x, x = P[k].2 := ⟨_, rfl⟩
      obtain ⟨nm, hnm⟩ : ∃ nm, nm = P[k].1 := ⟨_, rfl⟩
      have HPK : Hid (P[k] = (nm, x)) := Lib.hid (by rw [hxx, hnm])
      rw [← hxx] at hx c0 c1 c2
      rw [← hnm] at d0
      clear hxx hnm hcn
      have hbI := HI.out.1
      have e0 : wr.cell? ⟨b, off + k * 5, none⟩ = some (.int .i64 x.kind) := (hbI.cell (p := ⟨b, off + k * 5, none⟩) hbw).trans c0
      have e1 : wr.cell? ⟨b, off + k * 5 + 1, none⟩ = some (.int .i64 x.n) := (hbI.cell (p := ⟨b, off + k * 5 + 1, none⟩) hbw).trans c1
      have e2 : wr.cell? ⟨b, off + k * 5 + 2, none⟩ = some (str x.s) := (hbI.cell (p := ⟨b, off + k * 5 + 2, none⟩) hbw).trans c2
      have e3 : wr.cell? ⟨b, off + k * 5 + 3, none⟩ = some (.slice a n c) := (hbI.cell (p := ⟨b, off + k * 5 + 3, none⟩) hbw).trans c3
      have e4 : wr.cell? ⟨b, off + k * 5 + 4, none⟩ = some (.slice a' n' c') := (hbI.cell (p := ⟨b, off + k * 5 + 4, none⟩) hbw).trans c4
      have HCX : Hid (∀ W, Below w.heap.size w W → (W.cell? ⟨b, off + k * 5, none⟩ = some (.int .i64 x.kind) ∧ W.cell? ⟨b, off + k * 5 + 1, none⟩ = some (.int .i64 x.n) ∧ W.cell? ⟨b, off + k * 5 + 2, none⟩ = some (str x.s) ∧ W.cell? ⟨b, off + k * 5 + 3, none⟩ = some (.slice a n c) ∧ W.cell? ⟨b, off + k * 5 + 4, none⟩ = some (.slice a' n' c')) ∧ W.cell? ⟨bn, on + k, none⟩ = some (str nm) ∧ RdJ W (fun _ => True) x [.int .i64 x.kind, .int .i64 x.n, str x.s, .slice a n c, .slice a' n' c']) := Lib.hid (fun W hb => ⟨⟨(hb.cell (p := ⟨b, off + k * 5, none⟩) hbw).trans c0, (hb.cell (p := ⟨b, off + k * 5 + 1, none⟩) hbw).trans c1, (hb.cell (p := ⟨b, off + k * 5 + 2, none⟩) hbw).trans c2, (hb.cell (p := ⟨b, off + k * 5 + 3, none⟩) hbw).trans c3, (hb.cell (p := ⟨b, off + k * 5 + 4, none⟩) hbw).trans c4⟩, (hb.cell (p := ⟨bn, on + k, none⟩) hbn).trans d0, hx.up hb⟩)
      have CW := Lib.hid (few_any (HCX.out wr hbI).2.2)
      have HBR := Lib.hid hbI
      clear hx c0 c1 c2 c3 c4 d0 hbI hbn hbw
      cases hf : fewB x with
      | false =>
        rw [hf] at CW
        clear hf
        go_wp2_with fail
        refine CW.out.mono ?_
        rintro e w2 ⟨rfl, hb2⟩
        have HB2 := Lib.hid (HBR.out.trans (hb2.mono HBR.out.size))
        clear hb2 CW e0 e1 e2 e3 e4
        have CF := Lib.hid (jfirst_any w2 (HT.out.up HB2.out HB2.out.size))
        go_wp2_with fail
        refine CF.out.mono ?_
        rintro e w99 ⟨rfl, hb99⟩
        have HX := Lib.hid (HB2.out.trans (hb99.mono HB2.out.size))
        clear hb99 CF
        go_wp2_with fail
        go_ret
        exact ⟨rfl, HX.out⟩
      | true =>
        rw [hf] at CW
        have HF := Lib.hid hf
        clear hf
        cases hm : mayV x 64 with
        | false =>
          have HM := Lib.hid hm
          clear hm
          go_wp2_with fail
          refine CW.out.mono ?_
          rintro e w2 ⟨rfl, hb2⟩
          have HB2 := Lib.hid (HBR.out.trans (hb2.mono HBR.out.size))
          clear hb2 CW e0 e1 e2 e3 e4
          obtain ⟨⟨e0, e1, e2, e3, e4⟩, _, hx2⟩ := HCX.out w2 HB2.out
          have CM := jmay_any hx2
          rw [HM.out] at CM
          have CM := Lib.hid CM
          clear hx2
          go_wp2_with fail
          refine CM.out.mono ?_
          rintro e w3 ⟨rfl, hb3⟩
          have HB3 := Lib.hid (HB2.out.trans (hb3.mono HB2.out.size))
          clear hb3 CM e0 e1 e2 e3 e4
          have CF := Lib.hid (jfirst_any w3 (HT.out.up HB3.out HB3.out.size))
          go_wp2_with fail
          refine CF.out.mono ?_
          rintro e w99 ⟨rfl, hb99⟩
          have HX := Lib.hid (HB3.out.trans (hb99.mono HB3.out.size))
          clear hb99 CF
          go_wp2_with fail
          go_ret
          exact ⟨rfl, HX.out⟩
        | true =>
          have HM := Lib.hid hm
          clear hm
          by_cases hnl : 100 < nm.length
          · have t5 : decide ((100 : Int) < (nm.length : Int)) = true := decide_eq_true (by omega)
            clear hnl
            go_wp2_with fail
            refine CW.out.mono ?_
            rintro e w2 ⟨rfl, hb2⟩
            have HB2 := Lib.hid (HBR.out.trans (hb2.mono HBR.out.size))
            clear hb2 CW e0 e1 e2 e3 e4
            obtain ⟨⟨e0, e1, e2, e3, e4⟩, _, hx2⟩ := HCX.out w2 HB2.out
            have CM := jmay_any hx2
            rw [HM.out] at CM
            have CM := Lib.hid CM
            clear hx2
            go_wp2_with fail
            refine CM.out.mono ?_
            rintro e w3 ⟨rfl, hb3⟩
            have HB3 := Lib.hid (HB2.out.trans (hb3.mono HB2.out.size))
            clear hb3 CM e0 e1 e2 e3 e4
            have d0 := (HCX.out w3 HB3.out).2.1
            have hsz0 : (ByteArray.mk nm.toArray).size = nm.length := by simp [ByteArray.size]
            have CF := Lib.hid (jfirst_any w3 (HT.out.up HB3.out HB3.out.size))
            go_wp2_with fail
            refine CF.out.mono ?_
            rintro e w99 ⟨rfl, hb99⟩
            have HX := Lib.hid (HB3.out.trans (hb99.mono HB3.out.size))
            clear hb99 CF
            go_wp2_with fail
            go_ret
            exact ⟨rfl, HX.out⟩
          · have t5 : decide ((100 : Int) < (nm.length : Int)) = false := decide_eq_false (by omega)
            have hnl2 : nm.length ≤ 100 := by omega
            clear hnl
            go_wp2_with fail
            refine CW.out.mono ?_
            rintro e w2 ⟨rfl, hb2⟩
            have HB2 := Lib.hid (HBR.out.trans (hb2.mono HBR.out.size))
            have HR2 := Lib.hid hb2
            clear hb2 CW e0 e1 e2 e3 e4
            obtain ⟨⟨e0, e1, e2, e3, e4⟩, _, hx2⟩ := HCX.out w2 HB2.out
            have CM := jmay_any hx2
            rw [HM.out] at CM
            have CM := Lib.hid CM
            clear hx2
            go_wp2_with fail
            refine CM.out.mono ?_
            rintro e w3 ⟨rfl, hb3⟩
            have HB3 := Lib.hid (HB2.out.trans (hb3.mono HB2.out.size))
            have HR3 := Lib.hid (HR2.out.trans (hb3.mono HR2.out.size))
            clear hb3 CM e0 e1 e2 e3 e4
            obtain ⟨⟨e0, e1, e2, e3, e4⟩, d0, hx3⟩ := HCX.out w3 HB3.out
            have hpl := prV_len x 64 HM.out
            have hszx := few_sz HF.out
            obtain ⟨B, hB⟩ : ∃ B, B = prV x := ⟨_, rfl⟩
            have CP := print_yes hx3 HM.out (by omega) (HT.out.up HB3.out HB3.out.size)
            rw [← hB] at CP hpl
            have CP := Lib.hid CP
            have HBv := Lib.hid hB
            have hBl : B.length ≤ 360000 := by omega
            clear hx3 hB hpl hszx
            go_wp2_with fail
            refine CP.out.mono ?_
            rintro e w4 ⟨v4, rfl, hown4, hb4⟩
            obtain ⟨a4, n4, c4, rfl⟩ := hown4.form
            have hlen4 : n4 = B.length := by
              obtain ⟨_, _, e9, _⟩ := hown4.rd
              cases e9; rfl
            subst hlen4
            have HB4 := Lib.hid (And.intro (HB3.out.trans (hb4.mono HB3.out.size)) hown4.rd)
            have HR4 := Lib.hid (HR3.out.trans (hb4.mono HR3.out.size))
            clear hb4 CP e0 e1 e2 e3 e4 d0 hown4
            have d0 := (HCX.out w4 HB4.out.1).2.1
            cases htx : txF nm with
            | false =>
              have CQ := Lib.hid (print_no (F := fun _ => True) (plainJ w4 _ 5 0 nm) (by rw [mayV_txt]; exact htx))
              clear htx
              go_wp2_with fail
              refine CQ.out.mono ?_
              rintro e w5 ⟨rfl, hb5⟩
              have HB5 := Lib.hid (HB4.out.1.trans (hb5.mono HB4.out.1.size))
              clear hb5 CQ d0 HB4
              have CF := Lib.hid (jfirst_any w5 (HT.out.up HB5.out HB5.out.size))
              go_wp2_with fail
              refine CF.out.mono ?_
              rintro e w99 ⟨rfl, hb99⟩
              have HX := Lib.hid (HB5.out.trans (hb99.mono HB5.out.size))
              clear hb99 CF
              go_wp2_with fail
              go_ret
              exact ⟨rfl, HX.out⟩
            | true =>
              have HTX := Lib.hid htx
              have eq5 : prV (.mk 5 0 nm [] []) = quo nm := rfl
              have hql := quo_len nm htx
              have CQ := print_yes (F := fun _ => True) (plainJ w4 (fun _ => True) 5 0 nm) (by rw [mayV_txt]; exact htx) (by rw [eq5]; omega) (HT.out.up HB4.out.1 HB4.out.1.size)
              obtain ⟨Q, hQ⟩ : ∃ Q, Q = quo nm := ⟨_, rfl⟩
              rw [eq5, ← hQ] at CQ
              rw [← hQ] at hql
              have CQ := Lib.hid CQ
              have HQv := Lib.hid hQ
              clear htx eq5 hQ
              go_wp2_with fail
              refine CQ.out.mono ?_
              rintro e w5 ⟨v5, rfl, hown5, hb5⟩
              obtain ⟨a5, n5, c5, rfl⟩ := hown5.form
              have hlen5 : n5 = Q.length := by
                obtain ⟨_, _, e9, _⟩ := hown5.rd
                cases e9; rfl
              subst hlen5
              have HB5 := Lib.hid (And.intro (HB4.out.1.trans (hb5.mono HB4.out.1.size)) (And.intro (HB4.out.2.below hb5 (Nat.le_refl _)) hown5.rd))
              have HI5 : Hid (LsI w P k v8 w5) := Lib.hid ⟨HB5.out.1, owns_below HI.out.2.1 (HR4.out.trans (hb5.mono HR4.out.size)) (Nat.le_refl _), HI.out.2.2⟩
              clear hb5 CQ d0 HB4 hown5
              obtain ⟨A, hA⟩ : ∃ A, A = lsT (P.map (fun x => x.2)) k := ⟨_, rfl⟩
              have hAl : A.length ≤ 5000000 := by
                have := lsT_szP P k
                have := HS.out
                rw [hA]; omega
              rw [← hA]
              have HAv := Lib.hid hA
              clear hA
              have hcb := bt.toString Tryd.underlying9 HB5.out.2.1
              have hcq := bt.toString Tryd.underlying9 HB5.out.2.2
              have hSl : szP (P.take k) ≤ 5000000 := by have := HS.out; omega
              obtain ⟨S, hS⟩ : ∃ S, S = szP (P.take k) := ⟨_, rfl⟩
              rw [← hS] at hSl ⊢
              have HSv := Lib.hid hS
              clear hS
              have r1 : IntKind.i64.wrap ((S : Int) + (B.length : Int)) = ((S + B.length : Nat) : Int) := by rw [IntWalk.i64_in _ ⟨by omega, by omega⟩]; omega
              have r2 : IntKind.i64.wrap (((S + B.length : Nat) : Int) + (Q.length : Int)) = ((S + B.length + Q.length : Nat) : Int) := by rw [IntWalk.i64_in _ ⟨by omega, by omega⟩]; omega
              have r3 : IntKind.i64.wrap (((S + B.length + Q.length : Nat) : Int) + 3) = ((S + B.length + Q.length + 3 : Nat) : Int) := by rw [IntWalk.i64_in _ ⟨by omega, by omega⟩]; omega
              have HX1 : Hid (szP (P.take (k + 1)) = S + B.length + Q.length + 3 ∧ szP (P.take (k + 1)) ≤ (k + 1) * 420010) := Lib.hid (by
                have h1 := szP_take hlt
                have h2 := mmT_len P[k]
                rw [HPK.out] at h1 h2
                dsimp only at h1 h2
                rw [← HBv.out, ← HQv.out] at h2
                have h3 := HSv.out
                have h4 := HS.out
                omega)
              have HX2 : Hid (mmT P[k] = Q ++ 58 :: B) := Lib.hid (by rw [HPK.out, mmT, HQv.out, HBv.out])
              have HX3 : Hid (∀ x ∈ P.take (k + 1), fewB x.2 = true ∧ mayV x.2 64 = true ∧ txF x.1 = true ∧ x.1.length ≤ 100) := Lib.hid (by
                intro z hz
                rw [List.take_add_one, List.getElem?_eq_getElem hlt, Option.toList_some] at hz
                rcases List.mem_append.1 hz with hz | hz
                · exact HI.out.2.2 z hz
                · rw [List.mem_singleton] at hz
                  rw [hz, HPK.out]
                  exact ⟨HF.out, HM.out, HTX.out, hnl2⟩)
              have HX4 : Hid (((P.take (k + 1)).map mmT).map str = ((P.take k).map mmT).map str ++ [str (Q ++ 58 :: B)]) := Lib.hid (by
                rw [List.take_add_one, List.getElem?_eq_getElem hlt, Option.toList_some, List.map_append, List.map_append]
                simp only [List.map_cons, List.map_nil]
                rw [HX2.out])
              clear HS HSv HBR HCX HI HR2 HR3 HR4 HB2 HB3
              by_cases hk0 : k = 0
              · have t6 : ¬ (0 : Int) < (k : Int) := by omega
                have HX5 : Hid (lsT (P.map (fun x => x.2)) (k + 1) = A ++ B) := Lib.hid (by
                  subst hk0
                  rw [HAv.out, lsT_one (by simpa using hlt), lsT_zero]
                  simp [HPK.out, HBv.out])
                clear hk0 HAv
                go_wp2_with (at_builtin; refine hold ?_)
                intro _
                refine wpList_appendF (by rfl) _ _ 37 (by rfl) w.heap.size 9 i0 _ 1 16 Tryd.underlying37 hi hz0 hz1 hz2 rfl (by decide) v8 k _ (by rfl) (World.ownsRow.alloc HI5.out.2.1 _) _ [[str (Q ++ 58 :: B)]] (by simp) (by simp [Value.oneCell']) (by rfl) (RdF.lit [[str (Q ++ 58 :: B)]] (by simp) (heap_alloc_new _ _) rfl (by simp)) (fun c h => by cases h) (by simp [maxLen]; omega) (by simp; omega) (by have := HI5.out.1.size; simp; omega) ?_
                intro v6 w6 ho6 hg6
                have HI6 : Hid (LsI w P (k + 1) v6 w6) := Lib.hid ⟨((HI5.out.1.trans ((below_alloc w5 _).mono HI5.out.1.size)).grown hg6 (by have := HI5.out.1.size; simp; omega) (fun j ej => (World.ownsRow.lt HI5.out.2.1 j ej).1)), by rw [HX4.out]; simpa using ho6, HX3.out⟩
                clear ho6 hg6 hcb hcq HI5
                go_wp2_with fail
                go_roundw
                case rel => exact ⟨k + 1, by omega, by rw [HX5.out], by rw [HX1.out.1]; simp, by go_num, Lib.hid HX1.out.2, HI6⟩
                case measure => simp [intOf]; omega
              · have t6 : (0 : Int) < (k : Int) := by omega
                have HX5 : Hid (lsT (P.map (fun x => x.2)) (k + 1) = A ++ 44 :: B) := Lib.hid (by
                  rw [HAv.out, lsT_succ (by simpa using hlt) hk0]
                  simp [HPK.out, HBv.out])
                clear hk0 HAv
                go_wp2_with (at_builtin; refine hold ?_)
                intro _
                refine wpList_appendF (by rfl) _ _ 37 (by rfl) w.heap.size 9 i0 _ 1 16 Tryd.underlying37 hi hz0 hz1 hz2 rfl (by decide) v8 k _ (by rfl) (World.ownsRow.alloc HI5.out.2.1 _) _ [[str (Q ++ 58 :: B)]] (by simp) (by simp [Value.oneCell']) (by rfl) (RdF.lit [[str (Q ++ 58 :: B)]] (by simp) (heap_alloc_new _ _) rfl (by simp)) (fun c h => by cases h) (by simp [maxLen]; omega) (by simp; omega) (by have := HI5.out.1.size; simp; omega) ?_
                intro v6 w6 ho6 hg6
                have HI6 : Hid (LsI w P (k + 1) v6 w6) := Lib.hid ⟨((HI5.out.1.trans ((below_alloc w5 _).mono HI5.out.1.size)).grown hg6 (by have := HI5.out.1.size; simp; omega) (fun j ej => (World.ownsRow.lt HI5.out.2.1 j ej).1)), by rw [HX4.out]; simpa using ho6, HX3.out⟩
                clear ho6 hg6 hcb hcq HI5
                go_wp2_with fail
                go_roundw
                case rel => exact ⟨k + 1, by omega, by rw [HX5.out], by rw [HX1.out.1]; simp, by go_num, Lib.hid HX1.out.2, HI6⟩
                case measure => simp [intOf]; omega
    · obtain rfl : k = P.length := by omega
      have n2 : ¬ (P.length : Int) < (P.length : Int) := by omega
      obtain ⟨a8, c8, rfl⟩ := own_slice HI.out.2.1
      rw [List.take_length] at HS
      rw [List.take_length]
      by_cases hbig : 15000 < szP P
      · have t7 : (15000 : Int) < (szP P : Int) := by omega
        have HB2 := Lib.hid HI.out.1
        clear hbig
        have CF := Lib.hid (jfirst_any wr (HT.out.up HB2.out HB2.out.size))
        go_wp2_with fail
        refine CF.out.mono ?_
        rintro e w99 ⟨rfl, hb99⟩
        have HX := Lib.hid (HB2.out.trans (hb99.mono HB2.out.size))
        clear hb99 CF
        go_wp2_with fail
        go_ret
        exact ⟨rfl, HX.out⟩
      · have t7 : ¬ (15000 : Int) < (szP P : Int) := by omega
        have hszP : szP P ≤ 15000 := by omega
        obtain ⟨LS, hLS⟩ : ∃ LS, LS = lsT (P.map (fun x => x.2)) P.length := ⟨_, rfl⟩
        rw [← hLS]
        have hLSl : LS.length ≤ 15000 := by
          have := lsT_szP P P.length
          rw [List.take_length] at this
          rw [hLS]; omega
        have HLS := Lib.hid hLS
        clear hbig hLS HS
        go_wp2_with fail
        go_loopw [15, 16] (fun v15 v16 wr2 => ∃ k : Nat, k ≤ P.length ∧ v15 = str (123 :: ojT ((rotP P T).take k)) ∧ v16 = .int .i64 (k : Int) ∧ wr2 = wr) (fun _ v16 _ => P.length - (intOf v16).toNat)
        case atStart => exact ⟨0, Nat.zero_le _, rfl, rfl, rfl⟩
        case round =>
          obtain ⟨k, hk, rfl, rfl, rfl⟩ := hrel
          by_cases hlt : k < P.length
          · have n1 : (k : Int) < (P.length : Int) := by omega
            obtain ⟨g8, cp8, e8, _, _⟩ := World.ownsRow.form HI.out.2.1 (by omega)
            cases e8
            have hR := Nat.mod_lt (k + T) (show P.length > 0 by omega)
            have HRT := Lib.hid (rotP_take (T := T) hlt)
            obtain ⟨R, hRR⟩ : ∃ R, R = (k + T) % P.length := ⟨_, rfl⟩
            have HM : Hid ((rotP P T).take (k + 1) = (rotP P T).take k ++ [P[R]'(by rw [hRR]; exact hR)]) := Lib.hid (by rw [HRT.out]; simp only [hRR])
            have hc := (row_cells HI.out.2.1).2 R (by simp; rw [hRR]; exact hR)
            have t9 : (P.length == 0) = false := by rw [beq_eq_false_iff_ne]; omega
            have t9' : ¬ ((P.length : Int) = 0) := by omega
            have m3 : IntKind.i64.wrap ((k : Int) + (T : Int)) = ((k + T : Nat) : Int) := by rw [IntWalk.i64_in _ ⟨by omega, by omega⟩]; omega
            have m1 : ((k : Int) + (T : Int)) % (P.length : Int) = (R : Int) := by rw [hRR]; norm_cast
            have m2 : (k + T) % P.length = R := hRR.symm
            have k1 : (R : Int) < (P.length : Int) := by omega
            have k2 : (0 : Int) ≤ (R : Int) := by omega
            have hlk := ojT_szP ((rotP P T).take k)
            have hlk2 := szP_take_le (rotP P T) k
            rw [rotP_sz] at hlk2
            rw [List.length_take] at hlk
            have hmm : (mmT (P[R]'(by rw [hRR]; exact hR))).length ≤ 15000 := by
              have h1 := szP_take (P := P) (k := R) (by rw [hRR]; exact hR)
              have h2 := szP_take_le P (R + 1)
              omega
            simp only [List.getElem_map, List.take_length] at hc
            obtain ⟨y, hy⟩ : ∃ y, y = P[R]'(by rw [hRR]; exact hR) := ⟨_, rfl⟩
            have hc2 : wr.cell? ⟨g8, R, none⟩ = some (str (mmT y)) := by rw [hy]; exact hc
            rw [← hy] at HM hmm
            obtain ⟨M, hM⟩ : ∃ M, M = mmT y := ⟨_, rfl⟩
            obtain ⟨A, hA⟩ : ∃ A, A = ojT ((rotP P T).take k) := ⟨_, rfl⟩
            rw [← hM] at hc2 hmm
            rw [← hA] at hlk ⊢
            have hAl : A.length ≤ 15012 := by omega
            have HA := Lib.hid (And.intro hA hM)
            clear hA hM hy hc hRR hR hlk hlk2 HRT
            by_cases hk0 : k = 0
            · have t8 : ¬ (0 : Int) < (k : Int) := by omega
              have HX : Hid (ojT ((rotP P T).take (k + 1)) = A ++ M) := Lib.hid (by rw [HM.out, HA.out.1, HA.out.2, hk0]; simp [ojT, ojR])
              clear hk0
              go_wp2_with fail
              go_roundw
              case rel => exact ⟨k + 1, by omega, by rw [HX.out], by go_num, trivial⟩
              case measure => simp [intOf]; omega
            · have t8 : (0 : Int) < (k : Int) := by omega
              have HX : Hid (ojT ((rotP P T).take (k + 1)) = A ++ 32 :: 44 :: 10 :: M) := Lib.hid (by
                rw [HM.out, HA.out.1, HA.out.2]
                refine ojT_snoc _ ?_
                intro e
                have := congrArg List.length e
                rw [List.length_take, rotP_len, List.length_nil] at this
                omega)
              clear hk0
              go_wp2_with fail
              go_roundw
              case rel => exact ⟨k + 1, by omega, by rw [HX.out], by go_num, trivial⟩
              case measure => simp [intOf]; omega
          · obtain rfl : k = P.length := by omega
            have n3 : ¬ (P.length : Int) < (P.length : Int) := by omega
            have hall : (rotP P T).take P.length = rotP P T := by
              have := rotP_len P T
              conv => lhs; rw [← this]
              exact List.take_length
            rw [hall]
            obtain ⟨OJ, hOJ⟩ : ∃ OJ, OJ = ojT (rotP P T) := ⟨_, rfl⟩
            rw [← hOJ]
            have hOJl : OJ.length ≤ 15012 := by
              have := ojT_szP (rotP P T)
              rw [rotP_sz, rotP_len] at this
              rw [hOJ]; omega
            have HOJ := Lib.hid hOJ
            have HIB := Lib.hid HI.out.1
            have HAL := Lib.hid (show ∀ x ∈ P, fewB x.2 = true ∧ mayV x.2 64 = true ∧ txF x.1 = true ∧ x.1.length ≤ 100 from by have := HI.out.2.2; rwa [List.take_length] at this)
            have hL64 : mayL (P.map (fun x => x.2)) 64 = true := mayL_of (fun x hx => by
              obtain ⟨y, hy, rfl⟩ := List.mem_map.1 hx
              exact (HAL.out y hy).2.1)
            have hPL : prV (.mk 6 0 [] (P.map (fun x => x.2)) []) = 91 :: (LS ++ [93]) := by
              rw [HLS.out]
              have := lsT_all (P.map (fun x => x.2))
              rw [List.length_map] at this
              rw [this]; rfl
            have hPP := par_list hL64 (by rw [hPL]; simp; omega)
            rw [hPL] at hPP
            obtain ⟨cap7, x7, hconv7, hrd7, hx7⟩ := bytes_run (91 :: (LS ++ [93])) wr (by simp; omega)
            have CT := parse_any hrd7 (by simp; omega)
            rw [hPP] at CT
            have e1 : (91 :: (LS ++ [93])).length = LS.length + 2 := by simp
            rw [e1] at hconv7 CT
            have HX7 := Lib.hid hx7
            clear hall hOJ hPP hrd7 hx7 e1 HI hPL
            cases h63 : mayL (P.map (fun x => x.2)) 63 with
            | false =>
              rw [h63, if_neg (by simp)] at CT
              have CT := Lib.hid CT
              clear h63
              go_wp2_with fail
              refine CT.out.mono ?_
              rintro e w5 ⟨rfl, _, hb5⟩
              go_upto_region 31 with fail
              refine wp_any_world (fun X => Below w.heap.size w X) (by
                have hs := HX7.out.trans ((hb5.trans ((below_alloc _ (.cells #[.int .i64 0, .int .i64 0, str [], .slice none 0 0, .slice none 0 0] 25)).mono hb5.size)).mono HX7.out.size)
                exact HIB.out.trans (hs.mono HIB.out.size)) ?_
              intro w6 hb6
              have HB6 := Lib.hid hb6
              clear hb5 hb6 CT HX7 hconv7
              obtain ⟨cap8, x8, hconv8, hrd8, hx8⟩ := bytes_run (123 :: (OJ ++ [125])) w6 (by simp; omega)
              have CU := parse_any hrd8 (by simp; omega)
              have e1 : (123 :: (OJ ++ [125])).length = OJ.length + 2 := by simp
              rw [e1] at hconv8 CU
              have HX8 := Lib.hid hx8
              clear hrd8 hx8 e1
              cases hp : parP (123 :: (OJ ++ [125])) with
              | err c =>
                rw [hp] at CU
                have CU := Lib.hid CU
                clear hp
                go_wp2_with fail
                refine CU.out.mono ?_
                rintro e w8 ⟨rfl, _, hb8⟩
                go_upto_region 32 with fail
                refine wp_any_world (fun X => Below w.heap.size w X) (by
                  have hs := HX8.out.trans ((hb8.trans ((below_alloc _ (.cells #[.int .i64 0, .int .i64 0, str [], .slice none 0 0, .slice none 0 0] 25)).mono hb8.size)).mono HX8.out.size)
                  exact HB6.out.trans (hs.mono HB6.out.size)) ?_
                intro w9 hb9
                have HB9 := Lib.hid hb9
                clear hb8 hb9 CU HX8 hconv8
                have CF := Lib.hid (jfirst_any w9 (HT.out.up HB9.out HB9.out.size))
                go_wp2_with fail
                refine CF.out.mono ?_
                rintro e w99 ⟨rfl, hb99⟩
                have HX := Lib.hid (HB9.out.trans (hb99.mono HB9.out.size))
                clear hb99 CF
                go_wp2_with fail
                go_ret
                exact ⟨rfl, HX.out⟩
              | ok v1 z1 =>
                rw [hp] at CU
                have CU := Lib.hid CU
                clear hp
                go_wp2_with fail
                refine CU.out.mono ?_
                rintro e w8 ⟨cs8, rfl, hv8, hb8⟩
                obtain ⟨a18, l18, c18, a28, l28, c28, rfl, _, _⟩ := hv8.open
                go_upto_region 32 with fail
                refine wp_any_world (fun X => Below w.heap.size w X) (by
                  have hs := HX8.out.trans ((hb8.trans ((below_alloc _ (.cells #[.int .i64 v1.kind, .int .i64 v1.n, str v1.s, .slice a18 l18 c18, .slice a28 l28 c28] 25)).mono hb8.size)).mono HX8.out.size)
                  exact HB6.out.trans (hs.mono HB6.out.size)) ?_
                intro w9 hb9
                have HB9 := Lib.hid hb9
                clear hb8 hb9 hv8 CU HX8 hconv8
                have CF := Lib.hid (jfirst_any w9 (HT.out.up HB9.out HB9.out.size))
                go_wp2_with fail
                refine CF.out.mono ?_
                rintro e w99 ⟨rfl, hb99⟩
                have HX := Lib.hid (HB9.out.trans (hb99.mono HB9.out.size))
                clear hb99 CF
                go_wp2_with fail
                go_ret
                exact ⟨rfl, HX.out⟩
            | true =>
              rw [h63, if_pos rfl] at CT
              have CT := Lib.hid CT
              have HM63 : Hid (∀ x ∈ rotP P T, txF x.1 = true ∧ mayV x.2 63 = true) := Lib.hid (fun x hx => by
                have hx := (rotP_perm P T).mem_iff.1 hx
                exact ⟨(HAL.out x hx).2.2.1, mayL_mem h63 _ (List.mem_map.2 ⟨x, hx, rfl⟩)⟩)
              clear h63
              go_wp2_with fail
              refine CT.out.mono ?_
              rintro e w5 ⟨cs5, rfl, hv5, hb5⟩
              obtain ⟨a6, l6, c6, a6', l6', c6', rfl, ⟨rows6, hr6, hj6, hl6⟩, _⟩ := hv5.open
              dsimp only [JV.kind, JV.n, JV.s, JV.l, JV.m] at hr6 hj6 hl6 ⊢
              rw [List.length_map] at hl6
              subst hl6
              go_upto_region 31 with fail
              refine wp_any_world (fun X => Below w.heap.size w X ∧ X.heap[w5.heap.size]? = some (.cells #[.int .i64 6, .int .i64 0, str [], .slice a6 P.length c6, .slice a6' l6' c6'] 25 (0, 0)) ∧ RdFB (fun i => x7.heap.size ≤ i) 5 X (.slice a6 P.length c6) rows6 ∧ RdL X (fun i => x7.heap.size ≤ i) (P.map (fun x => x.2)) rows6) (by
                have hs := HX7.out.trans ((hb5.trans ((below_alloc _ (.cells #[.int .i64 6, .int .i64 0, str [], .slice a6 P.length c6, .slice a6' l6' c6'] 25)).mono hb5.size)).mono HX7.out.size)
                exact ⟨HIB.out.trans (hs.mono HIB.out.size), heap_alloc_new _ _, hr6.frm (Frm.of_below (F := fun _ => False) (below_alloc _ _)) (fun _ _ h => h), hj6.up (below_alloc _ _)⟩) ?_
              rintro w6 ⟨hw6, hx6, hr6', hj6'⟩
              have H6 := Lib.hid (And.intro hw6 (And.intro hx6 (And.intro hr6' hj6')))
              clear hw6 hx6 hr6' hj6' hr6 hj6 hv5 hb5 CT HX7 hconv7
              obtain ⟨cap8, x8, hconv8, hrd8, hx8⟩ := bytes_run (123 :: (OJ ++ [125])) w6 (by simp; omega)
              have CU := parse_any hrd8 (by simp; omega)
              have hPO := par_obj HM63.out (by rw [← HOJ.out]; simp; omega)
              rw [← HOJ.out] at hPO
              rw [hPO] at CU
              have e1 : (123 :: (OJ ++ [125])).length = OJ.length + 2 := by simp
              rw [e1] at hconv8 CU
              have HX8 := Lib.hid hx8
              have hND : ((rotP P T).map (fun x => x.1)).Nodup ↔ (P.map (fun x => x.1)).Nodup := ((rotP_perm P T).map _).nodup_iff
              have hUI := uniq_iff (P.map (fun x => x.1))
              rw [List.length_map] at hUI
              have CQ : Hid (∀ W, Below w.heap.size w W → Calls Tryd.prog 14 #[.slice an P.length cn] W fun e w' => ∃ au cu, e = .returned (.slice au (uniqF (P.map (fun x => x.1))).length cu) ∧ Below W.heap.size W w') := Lib.hid (fun W hb => (unique_any _ _ W (by
                obtain ⟨q1, q2, q3, q4, q5⟩ := HVN.out
                refine ⟨q1, q2, q3, q4, fun hne => ?_⟩
                obtain ⟨b9, o9, e9, h9⟩ := q5 hne
                exact ⟨b9, o9, e9, fun i hi => (hb.cell (p := ⟨b9, o9 + i, none⟩) (World.block_lt_of_cell? w _ (h9 i hi))).trans (h9 i hi)⟩) (by simp; omega)).mono (by
                rintro e w' ⟨vo, rfl, ⟨au, cu, rfl, _⟩, hbb⟩
                exact ⟨au, cu, by rw [List.length_map], hbb⟩))
              obtain ⟨UL, hUL⟩ : ∃ UL, UL = (uniqF (P.map (fun x => x.1))).length := ⟨_, rfl⟩
              rw [← hUL] at CQ hUI
              clear hrd8 hx8 e1 hPO hUL
              by_cases hnd : (P.map (fun x => x.1)).Nodup
              · rw [if_pos (hND.2 hnd)] at CU
                have CU := Lib.hid CU
                have u1 : ((UL : Int) == (P.length : Int)) = true := by rw [beq_iff_eq]; exact hUI.2 hnd
                have HND := Lib.hid hnd
                clear hnd hND hUI
                go_wp2_with fail
                refine CU.out.mono ?_
                rintro e w8 ⟨cs8, rfl, hv8, hb8⟩
                obtain ⟨a9, l9, c9, a9', l9', c9', rfl, _, ⟨_, _, _, hl9⟩⟩ := hv8.open
                dsimp only [JV.kind, JV.n, JV.s, JV.l, JV.m] at hl9 hv8 ⊢
                rw [(srtM_perm _).length_eq, rotP_len] at hl9
                subst hl9
                go_upto_region 32 with fail
                refine wp_any_world (fun X => Below w.heap.size w X ∧ X.heap[w5.heap.size]? = some (.cells #[.int .i64 6, .int .i64 0, str [], .slice a6 P.length c6, .slice a6' l6' c6'] 25 (0, 0)) ∧ RdFB (fun i => x7.heap.size ≤ i) 5 X (.slice a6 P.length c6) rows6 ∧ RdL X (fun i => x7.heap.size ≤ i) (P.map (fun x => x.2)) rows6 ∧ X.heap[w8.heap.size]? = some (.cells #[.int .i64 7, .int .i64 0, str [], .slice a9 l9 c9, .slice a9' P.length c9'] 25 (0, 0)) ∧ RdJ X (fun _ => True) (.mk 7 0 [] [] (srtM (rotP P T))) [.int .i64 7, .int .i64 0, str [], .slice a9 l9 c9, .slice a9' P.length c9']) (by
                  have hs := HX8.out.trans ((hb8.trans ((below_alloc _ (.cells #[.int .i64 7, .int .i64 0, str [], .slice a9 l9 c9, .slice a9' P.length c9'] 25)).mono hb8.size)).mono HX8.out.size)
                  exact ⟨H6.out.1.trans (hs.mono H6.out.1.size), box_up H6.out.2.1 hs, H6.out.2.2.1.frm (Frm.of_below (F := fun _ => False) hs) (fun _ _ h => h), H6.out.2.2.2.up hs, heap_alloc_new _ _, (hv8.up (below_alloc _ _)).mono (fun _ _ _ => trivial)⟩) ?_
                rintro w9 ⟨hw9, hx9, hr9, hj9, hy9, hv9⟩
                have H9 := Lib.hid (And.intro hw9 (And.intro hx9 (And.intro hr9 (And.intro hj9 (And.intro hy9 hv9)))))
                clear hw9 hx9 hr9 hj9 hy9 hv9 hv8 hb8 CU HX8 hconv8 H6
                have CQ2 := Lib.hid (CQ.out w9 H9.out.1)
                go_wp2_with fail
                refine CQ2.out.mono ?_
                rintro e wz ⟨au, cu, rfl, hbz⟩
                have HZ := Lib.hid hbz
                clear hbz CQ2 CQ
                have HSZ : Hid (szV (.mk 7 0 [] [] (srtM (rotP P T))) ≤ 1000000000) := Lib.hid (by
                  rw [szV, szL, szM_perm' ((srtM_perm _).trans (rotP_perm P T))]
                  have := szM_few (fun x hx => ⟨(HAL.out x hx).1, (HAL.out x hx).2.2.2⟩ : ∀ x ∈ P, fewB x.2 = true ∧ x.1.length ≤ 100)
                  simp
                  omega)
                have f4 := box_cell (box_up H9.out.2.1 HZ.out) 3
                go_wp2_with fail
                clear f4
                have HBZ := Lib.hid (H9.out.1.trans (HZ.out.mono H9.out.1.size))
                go_loopw [22] (fun v22 wr => ∃ k : Nat, k ≤ P.length ∧ v22 = .int .i64 (k : Int) ∧ Hid (Below wz.heap.size wz wr)) (fun v22 _ => P.length - (intOf v22).toNat)
                case atStart => exact ⟨0, Nat.zero_le _, rfl, Lib.hid (Below.refl _ _)⟩
                case round =>
                  obtain ⟨k, hk, rfl, HW⟩ := hrel
                  have HW9 : Hid (Below w9.heap.size w9 wr) := Lib.hid (HZ.out.trans (HW.out.mono HZ.out.size))
                  have HWW : Hid (Below w.heap.size w wr) := Lib.hid (HBZ.out.trans (HW.out.mono HBZ.out.size))
                  by_cases hlt : k < P.length
                  · have n1 : (k : Int) < (P.length : Int) := by omega
                    have n3 : (0 : Int) ≤ (k : Int) := by omega
                    obtain ⟨b, off, a, n, c, a', n', c', rfl, _, hbw, hx, c0, c1, c2, c3, c4⟩ := RdJ.part HLL.out.1 HLL.out.2 (k := k) (by simpa using hlt)
                    obtain ⟨b6, off6, a3, m3, c33, a3', m3', c3', rfl, _, hbw6, hx6, y0, y1, y2, y3, y4⟩ := RdJ.part H9.out.2.2.1 H9.out.2.2.2.1 (k := k) (by simpa using hlt)
                    obtain ⟨bn, on, rfl, hcn⟩ := HCN.out (by intro e; simp at e; rw [e] at hlt; simp at hlt)
                    have d0 := hcn k (by simpa using hlt)
                    simp only [List.getElem_map] at hx c0 c1 c2 d0 hx6 y0 y1 y2
                    have hbn := World.block_lt_of_cell? w _ d0
                    obtain ⟨x, hxx⟩ : ∃ x, x = P[k].2 := ⟨_, rfl⟩
                    obtain ⟨nm, hnm⟩ : ∃ nm, nm = P[k].1 := ⟨_, rfl⟩
                    have HPK : Hid ((nm, x) ∈ P) := Lib.hid (by rw [hxx, hnm]; exact List.getElem_mem hlt)
                    rw [← hxx] at hx c0 c1 c2 hx6 y0 y1 y2
                    rw [← hnm] at d0
                    have HCX : Hid (∀ W, Below w.heap.size w W → (W.cell? ⟨b, off + k * 5, none⟩ = some (.int .i64 x.kind) ∧ W.cell? ⟨b, off + k * 5 + 1, none⟩ = some (.int .i64 x.n) ∧ W.cell? ⟨b, off + k * 5 + 2, none⟩ = some (str x.s) ∧ W.cell? ⟨b, off + k * 5 + 3, none⟩ = some (.slice a n c) ∧ W.cell? ⟨b, off + k * 5 + 4, none⟩ = some (.slice a' n' c')) ∧ W.cell? ⟨bn, on + k, none⟩ = some (str nm) ∧ RdJ W (fun _ => True) x [.int .i64 x.kind, .int .i64 x.n, str x.s, .slice a n c, .slice a' n' c']) := Lib.hid (fun W hb => ⟨⟨(hb.cell (p := ⟨b, off + k * 5, none⟩) hbw).trans c0, (hb.cell (p := ⟨b, off + k * 5 + 1, none⟩) hbw).trans c1, (hb.cell (p := ⟨b, off + k * 5 + 2, none⟩) hbw).trans c2, (hb.cell (p := ⟨b, off + k * 5 + 3, none⟩) hbw).trans c3, (hb.cell (p := ⟨b, off + k * 5 + 4, none⟩) hbw).trans c4⟩, (hb.cell (p := ⟨bn, on + k, none⟩) hbn).trans d0, hx.up hb⟩)
                    have HCY : Hid ((wr.cell? ⟨b6, off6 + k * 5, none⟩ = some (.int .i64 x.kind) ∧ wr.cell? ⟨b6, off6 + k * 5 + 1, none⟩ = some (.int .i64 x.n) ∧ wr.cell? ⟨b6, off6 + k * 5 + 2, none⟩ = some (str x.s) ∧ wr.cell? ⟨b6, off6 + k * 5 + 3, none⟩ = some (.slice a3 m3 c33) ∧ wr.cell? ⟨b6, off6 + k * 5 + 4, none⟩ = some (.slice a3' m3' c3')) ∧ RdJ wr (fun _ => True) x [.int .i64 x.kind, .int .i64 x.n, str x.s, .slice a3 m3 c33, .slice a3' m3' c3']) := Lib.hid ⟨⟨(HW9.out.cell (p := ⟨b6, off6 + k * 5, none⟩) hbw6).trans y0, (HW9.out.cell (p := ⟨b6, off6 + k * 5 + 1, none⟩) hbw6).trans y1, (HW9.out.cell (p := ⟨b6, off6 + k * 5 + 2, none⟩) hbw6).trans y2, (HW9.out.cell (p := ⟨b6, off6 + k * 5 + 3, none⟩) hbw6).trans y3, (HW9.out.cell (p := ⟨b6, off6 + k * 5 + 4, none⟩) hbw6).trans y4⟩, (hx6.up HW9.out).mono (fun _ _ _ => trivial)⟩
                    clear hxx hnm hcn hx c0 c1 c2 c3 c4 d0 hx6 y0 y1 y2 y3 y4 hbw hbw6 hbn
                    obtain ⟨⟨c0, c1, c2, c3, c4⟩, d0, hx⟩ := HCX.out wr HWW.out
                    obtain ⟨⟨y0, y1, y2, y3, y4⟩, hx6⟩ := HCY.out
                    have f4 := box_cell (box_up H9.out.2.1 HW9.out) 3
                    have CS := same_any x x _ _ wr.drew _ _ (hx6.up (W' := wr.drew) (Below.drewsN (Below.refl _ _) 1)) (hx.up (W' := wr.drew) (Below.drewsN (Below.refl _ _) 1))
                    rw [samV_self] at CS
                    have CS := Lib.hid CS
                    have HKa := Lib.hid (Below.drewsN (Below.refl wr.heap.size wr) 1)
                    have HKS : Hid (∀ W', Below wr.heap.size wr W' → W'.cell? ⟨w5.heap.size, 3, none⟩ = some (.slice (some ⟨b6, off6, none⟩) P.length c6) ∧ W'.cell? ⟨b6, off6 + k * 5, none⟩ = some (.int .i64 x.kind) ∧ W'.cell? ⟨b6, off6 + k * 5 + 1, none⟩ = some (.int .i64 x.n) ∧ W'.cell? ⟨b6, off6 + k * 5 + 2, none⟩ = some (str x.s) ∧ W'.cell? ⟨b6, off6 + k * 5 + 3, none⟩ = some (.slice a3 m3 c33) ∧ W'.cell? ⟨b6, off6 + k * 5 + 4, none⟩ = some (.slice a3' m3' c3') ∧ W'.cell? ⟨b, off + k * 5, none⟩ = some (.int .i64 x.kind) ∧ W'.cell? ⟨b, off + k * 5 + 1, none⟩ = some (.int .i64 x.n) ∧ W'.cell? ⟨b, off + k * 5 + 2, none⟩ = some (str x.s) ∧ W'.cell? ⟨b, off + k * 5 + 3, none⟩ = some (.slice a n c) ∧ W'.cell? ⟨b, off + k * 5 + 4, none⟩ = some (.slice a' n' c')) := Lib.hid (fun W' hb => ⟨(hb.cell (p := ⟨w5.heap.size, 3, none⟩) (World.block_lt_of_cell? wr _ f4)).trans f4, (hb.cell (p := ⟨b6, off6 + k * 5, none⟩) (World.block_lt_of_cell? wr _ y0)).trans y0, (hb.cell (p := ⟨b6, off6 + k * 5 + 1, none⟩) (World.block_lt_of_cell? wr _ y1)).trans y1, (hb.cell (p := ⟨b6, off6 + k * 5 + 2, none⟩) (World.block_lt_of_cell? wr _ y2)).trans y2, (hb.cell (p := ⟨b6, off6 + k * 5 + 3, none⟩) (World.block_lt_of_cell? wr _ y3)).trans y3, (hb.cell (p := ⟨b6, off6 + k * 5 + 4, none⟩) (World.block_lt_of_cell? wr _ y4)).trans y4, (hb.cell (p := ⟨b, off + k * 5, none⟩) (World.block_lt_of_cell? wr _ c0)).trans c0, (hb.cell (p := ⟨b, off + k * 5 + 1, none⟩) (World.block_lt_of_cell? wr _ c1)).trans c1, (hb.cell (p := ⟨b, off + k * 5 + 2, none⟩) (World.block_lt_of_cell? wr _ c2)).trans c2, (hb.cell (p := ⟨b, off + k * 5 + 3, none⟩) (World.block_lt_of_cell? wr _ c3)).trans c3, (hb.cell (p := ⟨b, off + k * 5 + 4, none⟩) (World.block_lt_of_cell? wr _ c4)).trans c4⟩)
                    clear hx hx6 HCY
                    go_wp2_with fail
                    go_region_held3 (fun W' => W'.cell? ⟨w5.heap.size, 3, none⟩ = some (.slice (some ⟨b6, off6, none⟩) P.length c6) ∧ W'.cell? ⟨b6, off6 + k * 5, none⟩ = some (.int .i64 x.kind) ∧ W'.cell? ⟨b6, off6 + k * 5 + 1, none⟩ = some (.int .i64 x.n) ∧ W'.cell? ⟨b6, off6 + k * 5 + 2, none⟩ = some (str x.s) ∧ W'.cell? ⟨b6, off6 + k * 5 + 3, none⟩ = some (.slice a3 m3 c33) ∧ W'.cell? ⟨b6, off6 + k * 5 + 4, none⟩ = some (.slice a3' m3' c3') ∧ W'.cell? ⟨b, off + k * 5, none⟩ = some (.int .i64 x.kind) ∧ W'.cell? ⟨b, off + k * 5 + 1, none⟩ = some (.int .i64 x.n) ∧ W'.cell? ⟨b, off + k * 5 + 2, none⟩ = some (str x.s) ∧ W'.cell? ⟨b, off + k * 5 + 3, none⟩ = some (.slice a n c) ∧ W'.cell? ⟨b, off + k * 5 + 4, none⟩ = some (.slice a' n' c'))
                      (first | (exact HKS.out _ HKa.out) | (exact HKS.out _ HB12.out) | go_keep)
                      ((first | (go_at_call 13; refine CS.out.mono ?_; rintro e w12 ⟨rfl, hb12⟩; have HB12 := Lib.hid ((Below.drewsN (Below.refl wr.heap.size wr) 1).trans hb12); clear hb12) | fail))
                    all_goals
                      clear c0 c1 c2 c3 c4 d0 y0 y1 y2 y3 y4 f4
                      have HV12 : Hid (Below w.heap.size w w12) := Lib.hid (HWW.out.trans (HB12.out.mono HWW.out.size))
                      have H12 : Hid (Below wz.heap.size wz w12) := Lib.hid (HW.out.trans (HB12.out.mono HW.out.size))
                      have d0 := (HCX.out w12 HV12.out).2.1
                      have hz19 := box_up H9.out.2.2.2.2.1 (HW9.out.trans (HB12.out.mono HW9.out.size))
                      have p0 := box_cell hz19 0
                      have p1 := box_cell hz19 1
                      have p2 := box_cell hz19 2
                      have p3 := box_cell hz19 3
                      have p4 := box_cell hz19 4
                      have hGJ := get_srtP (P := P) (T := T) HND.out HPK.out
                      have CG : Hid (∀ W, Below w12.heap.size w12 W → Calls Tryd.prog 15 #[.agg #[.int .i64 7, .int .i64 0, str [], .slice a9 l9 c9, .slice a9' P.length c9'], str nm] W fun e w' => ∃ (q1 : Option Addr) (q2 q3 : Nat) (q4 : Option Addr) (q5 q6 : Nat), e = .returned (.tuple #[.agg #[.int .i64 x.kind, .int .i64 x.n, str x.s, .slice q1 q2 q3, .slice q4 q5 q6], .bool true]) ∧ RdJ w' (fun i => W.heap.size ≤ i) x [.int .i64 x.kind, .int .i64 x.n, str x.s, .slice q1 q2 q3, .slice q4 q5 q6] ∧ Below W.heap.size W w') := Lib.hid (fun W hb => by
                        have CG0 := get_any (.mk 7 0 [] [] (srtM (rotP P T))) nm HSZ.out _ W _ (H9.out.2.2.2.2.2.up ((HW9.out.trans (HB12.out.mono HW9.out.size)).trans (hb.mono (Nat.le_trans HW9.out.size HB12.out.size))))
                        rw [hGJ] at CG0
                        refine CG0.mono ?_
                        rintro e w' ⟨cs', rfl, hv', hb'⟩
                        obtain ⟨q1, q2, q3, q4, q5, q6, rfl, _, _⟩ := hv'.open
                        exact ⟨q1, q2, q3, q4, q5, q6, rfl, hv', hb'⟩)
                      clear hz19 hGJ HB12
                      have HKb := Lib.hid (Below.drewsN (Below.refl w12.heap.size w12) 1)
                      have HWc : Hid (Below w12.heap.size w12 (w12.alloc (.cells #[.int .i64 0, .int .i64 0, .string ⟨#[]⟩, .slice none 0 0, .slice none 0 0] 25)).drew) := Lib.hid ((below_alloc w12 _).trans (Below.drewsN (Below.refl _ _) 1 |> fun z => (z.mono (Nat.le_trans (Nat.le_refl _) (below_alloc w12 (.cells #[.int .i64 0, .int .i64 0, .string ⟨#[]⟩, .slice none 0 0, .slice none 0 0] 25)).size))))
                      have hnb1 : w12.heap.size ≠ w8.heap.size := by have := World.block_lt_of_cell? w12 _ p0; dsimp only at this; omega
                      have hnb2 : w12.heap.size ≠ bn := by have := World.block_lt_of_cell? w12 _ d0; dsimp only at this; omega
                      have HKT : Hid (∀ W', Below w12.heap.size w12 W' → W'.cell? ⟨w8.heap.size, 0, none⟩ = some (.int .i64 7) ∧ W'.cell? ⟨w8.heap.size, 1, none⟩ = some (.int .i64 0) ∧ W'.cell? ⟨w8.heap.size, 2, none⟩ = some (str []) ∧ W'.cell? ⟨w8.heap.size, 3, none⟩ = some (.slice a9 l9 c9) ∧ W'.cell? ⟨w8.heap.size, 4, none⟩ = some (.slice a9' P.length c9') ∧ W'.cell? ⟨bn, on + k, none⟩ = some (str nm)) := Lib.hid (fun W' hb => ⟨(hb.cell (p := ⟨w8.heap.size, 0, none⟩) (World.block_lt_of_cell? w12 _ p0)).trans p0, (hb.cell (p := ⟨w8.heap.size, 1, none⟩) (World.block_lt_of_cell? w12 _ p1)).trans p1, (hb.cell (p := ⟨w8.heap.size, 2, none⟩) (World.block_lt_of_cell? w12 _ p2)).trans p2, (hb.cell (p := ⟨w8.heap.size, 3, none⟩) (World.block_lt_of_cell? w12 _ p3)).trans p3, (hb.cell (p := ⟨w8.heap.size, 4, none⟩) (World.block_lt_of_cell? w12 _ p4)).trans p4, (hb.cell (p := ⟨bn, on + k, none⟩) (World.block_lt_of_cell? w12 _ d0)).trans d0⟩)
                      go_upto_region 42 with fail
                      go_cut [23, 24] from 196 to 235 (fun v23 v24 wc => ∃ B : Nat, v23 = .pointer (some ⟨B, 0, none⟩) ∧ v24 = .bool true ∧ Hid (GotX w12 x B wc))
                      case first =>
                        go_wp2_with fail
                        go_region_held3 (fun W' => W'.cell? ⟨w8.heap.size, 0, none⟩ = some (.int .i64 7) ∧ W'.cell? ⟨w8.heap.size, 1, none⟩ = some (.int .i64 0) ∧ W'.cell? ⟨w8.heap.size, 2, none⟩ = some (str []) ∧ W'.cell? ⟨w8.heap.size, 3, none⟩ = some (.slice a9 l9 c9) ∧ W'.cell? ⟨w8.heap.size, 4, none⟩ = some (.slice a9' P.length c9') ∧ W'.cell? ⟨bn, on + k, none⟩ = some (str nm))
                          (first | (exact HKT.out _ HKb.out) | (exact HKT.out _ HWc.out) | (exact HKT.out _ HG14.out) | (exact HKT.out _ (HG14.out.trans ((below_alloc _ _).mono HG14.out.size))) | go_keep)
                          ((first
                            | (go_at_call 15; refine (CG.out w12.drew HKb.out).mono ?_; rintro e w14 ⟨a4, n4, c44, a4', n4', c4', rfl, hv14, hb14⟩; have HG14 := Lib.hid (HKb.out.trans hb14); have HV14 := Lib.hid hv14; clear hv14 hb14)
                            | (go_at_call 15; refine (CG.out (w12.alloc (.cells #[.int .i64 0, .int .i64 0, .string ⟨#[]⟩, .slice none 0 0, .slice none 0 0] 25)).drew HWc.out).mono ?_; rintro e w14 ⟨a4, n4, c44, a4', n4', c4', rfl, hv14, hb14⟩; have hz23 := box_up (show ((w12.alloc (.cells #[.int .i64 0, .int .i64 0, .string ⟨#[]⟩, .slice none 0 0, .slice none 0 0] 25)).drew).heap[w12.heap.size]? = some (.cells #[.int .i64 0, .int .i64 0, .string ⟨#[]⟩, .slice none 0 0, .slice none 0 0] 25 (0, 0)) from heap_alloc_new w12 _) hb14; have s0 := box_cell hz23 0; have s1 := box_cell hz23 1; have s2 := box_cell hz23 2; have s3 := box_cell hz23 3; have s4 := box_cell hz23 4; have sf := box_fr hz23; have HZ23 := Lib.hid hz23; have HG14 := Lib.hid (HWc.out.trans (hb14.mono HWc.out.size)); clear hz23; have HV14 := Lib.hid hv14; clear hv14 hb14)
                            | fail))
                        all_goals
                          clear p0 p1 p2 p3 p4 d0
                          go_wp2_with fail
                          go_meet
                          case rel => first | (exact ⟨_, rfl, rfl, Lib.hid ⟨HG14.out.trans ((below_alloc _ _).mono HG14.out.size), _, _, _, _, _, _, heap_alloc_new _ _, (HV14.out.up (below_alloc _ _)).mono (fun _ _ _ => trivial)⟩⟩) | (exact ⟨_, rfl, rfl, Lib.hid (by
                            have h5 := five_set HZ23.out (.int .i64 x.kind) (.int .i64 x.n) (str x.s) (.slice a4 n4 c44) (.slice a4' n4' c4')
                            exact ⟨HG14.out.trans (h5.2.below HG14.out.size (fun i e => by omega)), _, _, _, _, _, _, h5.1, (HV14.out.frm h5.2 (fun i hi e => by
                              have : ((w12.alloc (.cells #[.int .i64 0, .int .i64 0, .string ⟨#[]⟩, .slice none 0 0, .slice none 0 0] 25)).drew).heap.size = w12.heap.size + 1 := by (show (w12.alloc _).heap.size = _; simp)
                              omega)).mono (fun _ _ _ => trivial)⟩)⟩)
                      case rest =>
                      obtain ⟨B23, rfl, rfl, HGX⟩ := hcut
                      clear p0 p1 p2 p3 p4 d0 HKT CG HKb HWc hnb1 hnb2
                      obtain ⟨hwc, a4, n4, c44, a4', n4', c4', hx15, hv15⟩ := HGX.out
                      have hVV := HV12.out.trans (hwc.mono HV12.out.size)
                      obtain ⟨⟨c0, c1, c2, c3, c4⟩, _, hx⟩ := HCX.out wc hVV
                      have CS2 := same_any x x _ _ wc.drew _ _ (hv15.up (W' := wc.drew) (Below.drewsN (Below.refl _ _) 1)) (hx.up (W' := wc.drew) (Below.drewsN (Below.refl _ _) 1))
                      rw [samV_self] at CS2
                      have CS2 := Lib.hid CS2
                      have z0 := box_cell hx15 0
                      have z1 := box_cell hx15 1
                      have z2 := box_cell hx15 2
                      have z3 := box_cell hx15 3
                      have z4 := box_cell hx15 4
                      have H15 : Hid (Below wz.heap.size wz wc) := Lib.hid (H12.out.trans (hwc.mono H12.out.size))
                      clear hwc hx15 hv15 hVV hx
                      have HKc := Lib.hid (Below.drewsN (Below.refl wc.heap.size wc) 1)
                      have HKU : Hid (∀ W', Below wc.heap.size wc W' → W'.cell? ⟨B23, 0, none⟩ = some (.int .i64 x.kind) ∧ W'.cell? ⟨B23, 1, none⟩ = some (.int .i64 x.n) ∧ W'.cell? ⟨B23, 2, none⟩ = some (str x.s) ∧ W'.cell? ⟨B23, 3, none⟩ = some (.slice a4 n4 c44) ∧ W'.cell? ⟨B23, 4, none⟩ = some (.slice a4' n4' c4') ∧ W'.cell? ⟨b, off + k * 5, none⟩ = some (.int .i64 x.kind) ∧ W'.cell? ⟨b, off + k * 5 + 1, none⟩ = some (.int .i64 x.n) ∧ W'.cell? ⟨b, off + k * 5 + 2, none⟩ = some (str x.s) ∧ W'.cell? ⟨b, off + k * 5 + 3, none⟩ = some (.slice a n c) ∧ W'.cell? ⟨b, off + k * 5 + 4, none⟩ = some (.slice a' n' c')) := Lib.hid (fun W' hb => ⟨(hb.cell (p := ⟨B23, 0, none⟩) (World.block_lt_of_cell? wc _ z0)).trans z0, (hb.cell (p := ⟨B23, 1, none⟩) (World.block_lt_of_cell? wc _ z1)).trans z1, (hb.cell (p := ⟨B23, 2, none⟩) (World.block_lt_of_cell? wc _ z2)).trans z2, (hb.cell (p := ⟨B23, 3, none⟩) (World.block_lt_of_cell? wc _ z3)).trans z3, (hb.cell (p := ⟨B23, 4, none⟩) (World.block_lt_of_cell? wc _ z4)).trans z4, (hb.cell (p := ⟨b, off + k * 5, none⟩) (World.block_lt_of_cell? wc _ c0)).trans c0, (hb.cell (p := ⟨b, off + k * 5 + 1, none⟩) (World.block_lt_of_cell? wc _ c1)).trans c1, (hb.cell (p := ⟨b, off + k * 5 + 2, none⟩) (World.block_lt_of_cell? wc _ c2)).trans c2, (hb.cell (p := ⟨b, off + k * 5 + 3, none⟩) (World.block_lt_of_cell? wc _ c3)).trans c3, (hb.cell (p := ⟨b, off + k * 5 + 4, none⟩) (World.block_lt_of_cell? wc _ c4)).trans c4⟩)
                      go_wp2_with fail
                      go_region_held3 (fun W' => W'.cell? ⟨B23, 0, none⟩ = some (.int .i64 x.kind) ∧ W'.cell? ⟨B23, 1, none⟩ = some (.int .i64 x.n) ∧ W'.cell? ⟨B23, 2, none⟩ = some (str x.s) ∧ W'.cell? ⟨B23, 3, none⟩ = some (.slice a4 n4 c44) ∧ W'.cell? ⟨B23, 4, none⟩ = some (.slice a4' n4' c4') ∧ W'.cell? ⟨b, off + k * 5, none⟩ = some (.int .i64 x.kind) ∧ W'.cell? ⟨b, off + k * 5 + 1, none⟩ = some (.int .i64 x.n) ∧ W'.cell? ⟨b, off + k * 5 + 2, none⟩ = some (str x.s) ∧ W'.cell? ⟨b, off + k * 5 + 3, none⟩ = some (.slice a n c) ∧ W'.cell? ⟨b, off + k * 5 + 4, none⟩ = some (.slice a' n' c'))
                        (first | (exact HKU.out _ HKc.out) | (exact HKU.out _ HG16.out) | go_keep)
                        ((first | (go_at_call 13; refine CS2.out.mono ?_; rintro e w16 ⟨rfl, hb16⟩; have HG16 := Lib.hid (HKc.out.trans hb16); have HB16 := Lib.hid (H15.out.trans (HG16.out.mono H15.out.size)); clear hb16) | fail))
                      all_goals
                        clear c0 c1 c2 c3 c4 z0 z1 z2 z3 z4 HKU
                        go_wp2_with fail
                        go_roundw
                        case rel => exact ⟨k + 1, by omega, by go_num, HB16⟩
                        case measure => simp [intOf]; omega
                  · obtain rfl : k = P.length := by omega
                    have n3 : ¬ (P.length : Int) < (P.length : Int) := by omega
                    have CF := Lib.hid (jfirst_any wr (HT.out.up HWW.out HWW.out.size))
                    go_wp2_with fail
                    refine CF.out.mono ?_
                    rintro e w13 ⟨rfl, hb13⟩
                    have HX := Lib.hid (HWW.out.trans (hb13.mono HWW.out.size))
                    have p4 := box_cell (box_up H9.out.2.2.2.2.1 (HW9.out.trans (hb13.mono HW9.out.size))) 4
                    clear hb13 CF
                    go_wp2_with fail
                    go_ret
                    exact ⟨rfl, HX.out⟩
              · rw [if_neg (fun h => hnd (hND.1 h))] at CU
                have CU := Lib.hid CU
                have u1 : ((UL : Int) == (P.length : Int)) = false := by rw [beq_eq_false_iff_ne]; exact fun h => hnd (hUI.1 h)
                clear hnd hND hUI
                go_wp2_with fail
                refine CU.out.mono ?_
                rintro e w8 ⟨rfl, _, hb8⟩
                go_upto_region 32 with fail
                refine wp_any_world (fun X => Below w.heap.size w X ∧ X.heap[w5.heap.size]? = some (.cells #[.int .i64 6, .int .i64 0, str [], .slice a6 P.length c6, .slice a6' l6' c6'] 25 (0, 0)) ∧ RdFB (fun i => x7.heap.size ≤ i) 5 X (.slice a6 P.length c6) rows6 ∧ RdL X (fun i => x7.heap.size ≤ i) (P.map (fun x => x.2)) rows6 ∧ X.heap[w8.heap.size]? = some (.cells #[.int .i64 0, .int .i64 0, str [], .slice none 0 0, .slice none 0 0] 25 (0, 0))) (by
                  have hs := HX8.out.trans ((hb8.trans ((below_alloc _ (.cells #[.int .i64 0, .int .i64 0, str [], .slice none 0 0, .slice none 0 0] 25)).mono hb8.size)).mono HX8.out.size)
                  exact ⟨H6.out.1.trans (hs.mono H6.out.1.size), box_up H6.out.2.1 hs, H6.out.2.2.1.frm (Frm.of_below (F := fun _ => False) hs) (fun _ _ h => h), H6.out.2.2.2.up hs, heap_alloc_new _ _⟩) ?_
                rintro w9 ⟨hw9, hx9, hr9, hj9, hy9⟩
                have H9 := Lib.hid (And.intro hw9 (And.intro hx9 (And.intro hr9 (And.intro hj9 hy9))))
                clear hw9 hx9 hr9 hj9 hy9 hb8 CU HX8 hconv8 H6
                have CQ2 := Lib.hid (CQ.out w9 H9.out.1)
                go_wp2_with fail
                refine CQ2.out.mono ?_
                rintro e wz ⟨au, cu, rfl, hbz⟩
                have HZ := Lib.hid hbz
                clear hbz CQ2 CQ
                have f4 := box_cell (box_up H9.out.2.1 HZ.out) 3
                go_wp2_with fail
                clear f4
                have HBZ := Lib.hid (H9.out.1.trans (HZ.out.mono H9.out.1.size))
                go_loopw [22] (fun v22 wr => ∃ k : Nat, k ≤ P.length ∧ v22 = .int .i64 (k : Int) ∧ Hid (Below wz.heap.size wz wr)) (fun v22 _ => P.length - (intOf v22).toNat)
                case atStart => exact ⟨0, Nat.zero_le _, rfl, Lib.hid (Below.refl _ _)⟩
                case round =>
                  obtain ⟨k, hk, rfl, HW⟩ := hrel
                  have HW9 : Hid (Below w9.heap.size w9 wr) := Lib.hid (HZ.out.trans (HW.out.mono HZ.out.size))
                  have HWW : Hid (Below w.heap.size w wr) := Lib.hid (HBZ.out.trans (HW.out.mono HBZ.out.size))
                  by_cases hlt : k < P.length
                  · have n1 : (k : Int) < (P.length : Int) := by omega
                    have n3 : (0 : Int) ≤ (k : Int) := by omega
                    obtain ⟨b, off, a, n, c, a', n', c', rfl, _, hbw, hx, c0, c1, c2, c3, c4⟩ := RdJ.part HLL.out.1 HLL.out.2 (k := k) (by simpa using hlt)
                    obtain ⟨b6, off6, a3, m3, c33, a3', m3', c3', rfl, _, hbw6, hx6, y0, y1, y2, y3, y4⟩ := RdJ.part H9.out.2.2.1 H9.out.2.2.2.1 (k := k) (by simpa using hlt)
                    obtain ⟨bn, on, rfl, hcn⟩ := HCN.out (by intro e; simp at e; rw [e] at hlt; simp at hlt)
                    have d0 := hcn k (by simpa using hlt)
                    simp only [List.getElem_map] at hx c0 c1 c2 d0 hx6 y0 y1 y2
                    have hbn := World.block_lt_of_cell? w _ d0
                    obtain ⟨x, hxx⟩ : ∃ x, x = P[k].2 := ⟨_, rfl⟩
                    obtain ⟨nm, hnm⟩ : ∃ nm, nm = P[k].1 := ⟨_, rfl⟩
                    have HPK : Hid ((nm, x) ∈ P) := Lib.hid (by rw [hxx, hnm]; exact List.getElem_mem hlt)
                    rw [← hxx] at hx c0 c1 c2 hx6 y0 y1 y2
                    rw [← hnm] at d0
                    have HCX : Hid (∀ W, Below w.heap.size w W → (W.cell? ⟨b, off + k * 5, none⟩ = some (.int .i64 x.kind) ∧ W.cell? ⟨b, off + k * 5 + 1, none⟩ = some (.int .i64 x.n) ∧ W.cell? ⟨b, off + k * 5 + 2, none⟩ = some (str x.s) ∧ W.cell? ⟨b, off + k * 5 + 3, none⟩ = some (.slice a n c) ∧ W.cell? ⟨b, off + k * 5 + 4, none⟩ = some (.slice a' n' c')) ∧ W.cell? ⟨bn, on + k, none⟩ = some (str nm) ∧ RdJ W (fun _ => True) x [.int .i64 x.kind, .int .i64 x.n, str x.s, .slice a n c, .slice a' n' c']) := Lib.hid (fun W hb => ⟨⟨(hb.cell (p := ⟨b, off + k * 5, none⟩) hbw).trans c0, (hb.cell (p := ⟨b, off + k * 5 + 1, none⟩) hbw).trans c1, (hb.cell (p := ⟨b, off + k * 5 + 2, none⟩) hbw).trans c2, (hb.cell (p := ⟨b, off + k * 5 + 3, none⟩) hbw).trans c3, (hb.cell (p := ⟨b, off + k * 5 + 4, none⟩) hbw).trans c4⟩, (hb.cell (p := ⟨bn, on + k, none⟩) hbn).trans d0, hx.up hb⟩)
                    have HCY : Hid ((wr.cell? ⟨b6, off6 + k * 5, none⟩ = some (.int .i64 x.kind) ∧ wr.cell? ⟨b6, off6 + k * 5 + 1, none⟩ = some (.int .i64 x.n) ∧ wr.cell? ⟨b6, off6 + k * 5 + 2, none⟩ = some (str x.s) ∧ wr.cell? ⟨b6, off6 + k * 5 + 3, none⟩ = some (.slice a3 m3 c33) ∧ wr.cell? ⟨b6, off6 + k * 5 + 4, none⟩ = some (.slice a3' m3' c3')) ∧ RdJ wr (fun _ => True) x [.int .i64 x.kind, .int .i64 x.n, str x.s, .slice a3 m3 c33, .slice a3' m3' c3']) := Lib.hid ⟨⟨(HW9.out.cell (p := ⟨b6, off6 + k * 5, none⟩) hbw6).trans y0, (HW9.out.cell (p := ⟨b6, off6 + k * 5 + 1, none⟩) hbw6).trans y1, (HW9.out.cell (p := ⟨b6, off6 + k * 5 + 2, none⟩) hbw6).trans y2, (HW9.out.cell (p := ⟨b6, off6 + k * 5 + 3, none⟩) hbw6).trans y3, (HW9.out.cell (p := ⟨b6, off6 + k * 5 + 4, none⟩) hbw6).trans y4⟩, (hx6.up HW9.out).mono (fun _ _ _ => trivial)⟩
                    clear hxx hnm hcn hx c0 c1 c2 c3 c4 d0 hx6 y0 y1 y2 y3 y4 hbw hbw6 hbn
                    obtain ⟨⟨c0, c1, c2, c3, c4⟩, d0, hx⟩ := HCX.out wr HWW.out
                    obtain ⟨⟨y0, y1, y2, y3, y4⟩, hx6⟩ := HCY.out
                    have f4 := box_cell (box_up H9.out.2.1 HW9.out) 3
                    have CS := same_any x x _ _ wr.drew _ _ (hx6.up (W' := wr.drew) (Below.drewsN (Below.refl _ _) 1)) (hx.up (W' := wr.drew) (Below.drewsN (Below.refl _ _) 1))
                    rw [samV_self] at CS
                    have CS := Lib.hid CS
                    have HKa := Lib.hid (Below.drewsN (Below.refl wr.heap.size wr) 1)
                    have HKS : Hid (∀ W', Below wr.heap.size wr W' → W'.cell? ⟨w5.heap.size, 3, none⟩ = some (.slice (some ⟨b6, off6, none⟩) P.length c6) ∧ W'.cell? ⟨b6, off6 + k * 5, none⟩ = some (.int .i64 x.kind) ∧ W'.cell? ⟨b6, off6 + k * 5 + 1, none⟩ = some (.int .i64 x.n) ∧ W'.cell? ⟨b6, off6 + k * 5 + 2, none⟩ = some (str x.s) ∧ W'.cell? ⟨b6, off6 + k * 5 + 3, none⟩ = some (.slice a3 m3 c33) ∧ W'.cell? ⟨b6, off6 + k * 5 + 4, none⟩ = some (.slice a3' m3' c3') ∧ W'.cell? ⟨b, off + k * 5, none⟩ = some (.int .i64 x.kind) ∧ W'.cell? ⟨b, off + k * 5 + 1, none⟩ = some (.int .i64 x.n) ∧ W'.cell? ⟨b, off + k * 5 + 2, none⟩ = some (str x.s) ∧ W'.cell? ⟨b, off + k * 5 + 3, none⟩ = some (.slice a n c) ∧ W'.cell? ⟨b, off + k * 5 + 4, none⟩ = some (.slice a' n' c')) := Lib.hid (fun W' hb => ⟨(hb.cell (p := ⟨w5.heap.size, 3, none⟩) (World.block_lt_of_cell? wr _ f4)).trans f4, (hb.cell (p := ⟨b6, off6 + k * 5, none⟩) (World.block_lt_of_cell? wr _ y0)).trans y0, (hb.cell (p := ⟨b6, off6 + k * 5 + 1, none⟩) (World.block_lt_of_cell? wr _ y1)).trans y1, (hb.cell (p := ⟨b6, off6 + k * 5 + 2, none⟩) (World.block_lt_of_cell? wr _ y2)).trans y2, (hb.cell (p := ⟨b6, off6 + k * 5 + 3, none⟩) (World.block_lt_of_cell? wr _ y3)).trans y3, (hb.cell (p := ⟨b6, off6 + k * 5 + 4, none⟩) (World.block_lt_of_cell? wr _ y4)).trans y4, (hb.cell (p := ⟨b, off + k * 5, none⟩) (World.block_lt_of_cell? wr _ c0)).trans c0, (hb.cell (p := ⟨b, off + k * 5 + 1, none⟩) (World.block_lt_of_cell? wr _ c1)).trans c1, (hb.cell (p := ⟨b, off + k * 5 + 2, none⟩) (World.block_lt_of_cell? wr _ c2)).trans c2, (hb.cell (p := ⟨b, off + k * 5 + 3, none⟩) (World.block_lt_of_cell? wr _ c3)).trans c3, (hb.cell (p := ⟨b, off + k * 5 + 4, none⟩) (World.block_lt_of_cell? wr _ c4)).trans c4⟩)
                    clear hx hx6 HCY
                    go_wp2_with fail
                    go_region_held3 (fun W' => W'.cell? ⟨w5.heap.size, 3, none⟩ = some (.slice (some ⟨b6, off6, none⟩) P.length c6) ∧ W'.cell? ⟨b6, off6 + k * 5, none⟩ = some (.int .i64 x.kind) ∧ W'.cell? ⟨b6, off6 + k * 5 + 1, none⟩ = some (.int .i64 x.n) ∧ W'.cell? ⟨b6, off6 + k * 5 + 2, none⟩ = some (str x.s) ∧ W'.cell? ⟨b6, off6 + k * 5 + 3, none⟩ = some (.slice a3 m3 c33) ∧ W'.cell? ⟨b6, off6 + k * 5 + 4, none⟩ = some (.slice a3' m3' c3') ∧ W'.cell? ⟨b, off + k * 5, none⟩ = some (.int .i64 x.kind) ∧ W'.cell? ⟨b, off + k * 5 + 1, none⟩ = some (.int .i64 x.n) ∧ W'.cell? ⟨b, off + k * 5 + 2, none⟩ = some (str x.s) ∧ W'.cell? ⟨b, off + k * 5 + 3, none⟩ = some (.slice a n c) ∧ W'.cell? ⟨b, off + k * 5 + 4, none⟩ = some (.slice a' n' c'))
                      (first | (exact HKS.out _ HKa.out) | (exact HKS.out _ HB12.out) | go_keep)
                      ((first | (go_at_call 13; refine CS.out.mono ?_; rintro e w12 ⟨rfl, hb12⟩; have HB12 := Lib.hid ((Below.drewsN (Below.refl wr.heap.size wr) 1).trans hb12); clear hb12) | fail))
                    all_goals
                      clear c0 c1 c2 c3 c4 d0 y0 y1 y2 y3 y4 f4
                      have HV12 : Hid (Below w.heap.size w w12) := Lib.hid (HWW.out.trans (HB12.out.mono HWW.out.size))
                      have H12 : Hid (Below wz.heap.size wz w12) := Lib.hid (HW.out.trans (HB12.out.mono HW.out.size))
                      have d0 := (HCX.out w12 HV12.out).2.1
                      have hz19 := box_up H9.out.2.2.2.2 (HW9.out.trans (HB12.out.mono HW9.out.size))
                      have p0 := box_cell hz19 0
                      have p1 := box_cell hz19 1
                      have p2 := box_cell hz19 2
                      have p3 := box_cell hz19 3
                      have p4 := box_cell hz19 4
                      have CG : Hid (∀ W, Calls Tryd.prog 15 #[.agg #[.int .i64 0, .int .i64 0, str [], .slice none 0 0, .slice none 0 0], str nm] W fun e w' => e = .returned (.tuple #[.agg #[.int .i64 0, .int .i64 0, str [], .slice none 0 0, .slice none 0 0], .bool false]) ∧ Below W.heap.size W w') := Lib.hid (fun W => (get_any (.mk 0 0 [] [] []) nm (by decide) (fun _ => True) W _ (plainJ W _ 0 0 [])).mono (by
                        rintro e w' hh
                        have e0 : getJ (.mk 0 0 [] [] []) nm = none := rfl
                        rw [e0] at hh
                        exact hh))
                      clear hz19 HB12
                      have HKb := Lib.hid (Below.drewsN (Below.refl w12.heap.size w12) 1)
                      have HWc : Hid (Below w12.heap.size w12 (w12.alloc (.cells #[.int .i64 0, .int .i64 0, .string ⟨#[]⟩, .slice none 0 0, .slice none 0 0] 25)).drew) := Lib.hid ((below_alloc w12 _).trans (Below.drewsN (Below.refl _ _) 1 |> fun z => (z.mono (Nat.le_trans (Nat.le_refl _) (below_alloc w12 (.cells #[.int .i64 0, .int .i64 0, .string ⟨#[]⟩, .slice none 0 0, .slice none 0 0] 25)).size))))
                      have hnb1 : w12.heap.size ≠ w8.heap.size := by have := World.block_lt_of_cell? w12 _ p0; dsimp only at this; omega
                      have hnb2 : w12.heap.size ≠ bn := by have := World.block_lt_of_cell? w12 _ d0; dsimp only at this; omega
                      have HKT : Hid (∀ W', Below w12.heap.size w12 W' → W'.cell? ⟨w8.heap.size, 0, none⟩ = some (.int .i64 0) ∧ W'.cell? ⟨w8.heap.size, 1, none⟩ = some (.int .i64 0) ∧ W'.cell? ⟨w8.heap.size, 2, none⟩ = some (str []) ∧ W'.cell? ⟨w8.heap.size, 3, none⟩ = some (.slice none 0 0) ∧ W'.cell? ⟨w8.heap.size, 4, none⟩ = some (.slice none 0 0) ∧ W'.cell? ⟨bn, on + k, none⟩ = some (str nm)) := Lib.hid (fun W' hb => ⟨(hb.cell (p := ⟨w8.heap.size, 0, none⟩) (World.block_lt_of_cell? w12 _ p0)).trans p0, (hb.cell (p := ⟨w8.heap.size, 1, none⟩) (World.block_lt_of_cell? w12 _ p1)).trans p1, (hb.cell (p := ⟨w8.heap.size, 2, none⟩) (World.block_lt_of_cell? w12 _ p2)).trans p2, (hb.cell (p := ⟨w8.heap.size, 3, none⟩) (World.block_lt_of_cell? w12 _ p3)).trans p3, (hb.cell (p := ⟨w8.heap.size, 4, none⟩) (World.block_lt_of_cell? w12 _ p4)).trans p4, (hb.cell (p := ⟨bn, on + k, none⟩) (World.block_lt_of_cell? w12 _ d0)).trans d0⟩)
                      go_upto_region 42 with fail
                      go_cut [23, 24] from 196 to 235 (fun v23 v24 wc => ∃ B : Nat, v23 = .pointer (some ⟨B, 0, none⟩) ∧ v24 = .bool false ∧ Hid (GotX w12 (.mk 0 0 [] [] []) B wc))
                      case first =>
                        go_wp2_with fail
                        go_region_held3 (fun W' => W'.cell? ⟨w8.heap.size, 0, none⟩ = some (.int .i64 0) ∧ W'.cell? ⟨w8.heap.size, 1, none⟩ = some (.int .i64 0) ∧ W'.cell? ⟨w8.heap.size, 2, none⟩ = some (str []) ∧ W'.cell? ⟨w8.heap.size, 3, none⟩ = some (.slice none 0 0) ∧ W'.cell? ⟨w8.heap.size, 4, none⟩ = some (.slice none 0 0) ∧ W'.cell? ⟨bn, on + k, none⟩ = some (str nm))
                          (first | (exact HKT.out _ HKb.out) | (exact HKT.out _ HWc.out) | (exact HKT.out _ HG14.out) | (exact HKT.out _ (HG14.out.trans ((below_alloc _ _).mono HG14.out.size))) | go_keep)
                          ((first
                            | (go_at_call 15; refine (CG.out w12.drew).mono ?_; rintro e w14 ⟨rfl, hb14⟩; have HG14 := Lib.hid (HKb.out.trans hb14); clear hb14)
                            | (go_at_call 15; refine (CG.out (w12.alloc (.cells #[.int .i64 0, .int .i64 0, .string ⟨#[]⟩, .slice none 0 0, .slice none 0 0] 25)).drew).mono ?_; rintro e w14 ⟨rfl, hb14⟩; have hz23 := box_up (show ((w12.alloc (.cells #[.int .i64 0, .int .i64 0, .string ⟨#[]⟩, .slice none 0 0, .slice none 0 0] 25)).drew).heap[w12.heap.size]? = some (.cells #[.int .i64 0, .int .i64 0, .string ⟨#[]⟩, .slice none 0 0, .slice none 0 0] 25 (0, 0)) from heap_alloc_new w12 _) hb14; have s0 := box_cell hz23 0; have s1 := box_cell hz23 1; have s2 := box_cell hz23 2; have s3 := box_cell hz23 3; have s4 := box_cell hz23 4; have sf := box_fr hz23; have HZ23 := Lib.hid hz23; have HG14 := Lib.hid (HWc.out.trans (hb14.mono HWc.out.size)); clear hz23; clear hb14)
                            | fail))
                        all_goals
                          clear p0 p1 p2 p3 p4 d0
                          go_wp2_with fail
                          go_meet
                          case rel => first | (exact ⟨_, rfl, rfl, Lib.hid ⟨HG14.out.trans ((below_alloc _ _).mono HG14.out.size), _, _, _, _, _, _, heap_alloc_new _ _, plainJ _ _ 0 0 []⟩⟩) | (exact ⟨_, rfl, rfl, Lib.hid (by
                            have h5 := five_set HZ23.out (.int .i64 0) (.int .i64 0) (str []) (.slice none 0 0) (.slice none 0 0)
                            exact ⟨HG14.out.trans (h5.2.below HG14.out.size (fun i e => by omega)), _, _, _, _, _, _, h5.1, plainJ _ _ 0 0 []⟩)⟩)
                      case rest =>
                      obtain ⟨B23, rfl, rfl, HGX⟩ := hcut
                      clear p0 p1 p2 p3 p4 d0 HKT CG HKb HWc hnb1 hnb2
                      have H15 : Hid (Below wz.heap.size wz wc) := Lib.hid (H12.out.trans (HGX.out.1.mono H12.out.size))
                      clear HGX
                      go_wp2_with fail
                      go_quiet (fail)
                      have HB16 := Lib.hid (Below.drewsN H15.out nq)
                      go_wp2_with fail
                      go_roundw
                      case rel => exact ⟨k + 1, by omega, by go_num, HB16⟩
                      case measure => simp [intOf]; omega
                  · obtain rfl : k = P.length := by omega
                    have n3 : ¬ (P.length : Int) < (P.length : Int) := by omega
                    have CF := Lib.hid (jfirst_any wr (HT.out.up HWW.out HWW.out.size))
                    go_wp2_with fail
                    refine CF.out.mono ?_
                    rintro e w13 ⟨rfl, hb13⟩
                    have HX := Lib.hid (HWW.out.trans (hb13.mono HWW.out.size))
                    clear hb13 CF
                    go_wp2_with fail
                    go_ret
                    exact ⟨rfl, HX.out⟩
end Go.Proofs.YtidlhajibjnkeaaDoor
namespace Go.Proofs.YtidlhajibjnkeaaDoor
open Go.RowKit

set_option maxRecDepth 100000 in
set_option maxHeartbeats 8000000 in
theorem lists_walk (vl : Value) (l : List JV) (rows : List (List Value)) (vn : Value) (names : List (List UInt8)) (turn : Int) (w : World) (h1 : RdFB (fun _ => True) 5 w vl rows) (h2 : RdL w (fun _ => True) l rows) (h3 : RdV w vn (names.map str)) (_ : ∀ x ∈ names, x.length ≤ 9223372036854775807)
    (h4 : -9223372036854775808 ≤ turn ∧ turn ≤ 9223372036854775807) (ht : TabJ w.heap.size w) :
    Calls Tryd.prog 5 #[vl, vn, .int .i64 turn] w fun e w' => e = .returned (.bool true) ∧ Below w.heap.size w w' := by
  have C1 := Lib.hid (jfirst_any w ht)
  have HT := Lib.hid ht
  obtain ⟨al, cl, hvl, _, _⟩ := id h1.form
  have hrl := (RdL.rows h2).1
  rw [hrl] at hvl
  obtain ⟨an, cn, hvn, hln, _⟩ := id h3
  rw [List.length_map] at hvn hln
  have hll : l.length ≤ 9223372036854775807 := by
    obtain ⟨_, _, e, g, _⟩ := h1
    omega
  by_cases a1 : 12 < l.length
  · have t1 : decide ((12 : Int) < (l.length : Int)) = true := decide_eq_true (by omega)
    clear a1 h1 h2 h3 h4 ht
    subst hvl hvn
    go_enter Tryd.func5, Tryd.ntmps5
    go_wp2_with fail
    refine C1.out.mono ?_
    rintro e w1 ⟨rfl, hb1⟩
    have HB1 := Lib.hid hb1
    clear hb1 C1
    have CF := Lib.hid (jfirst_any w1 (HT.out.up HB1.out HB1.out.size))
    go_wp2_with fail
    refine CF.out.mono ?_
    rintro e w99 ⟨rfl, hb99⟩
    have HX := Lib.hid (HB1.out.trans (hb99.mono HB1.out.size))
    clear hb99 CF
    go_wp2_with fail
    go_ret
    exact ⟨rfl, HX.out⟩
  · have t1 : decide ((12 : Int) < (l.length : Int)) = false := decide_eq_false (by omega)
    by_cases a2 : names.length = l.length
    · have t2 : ((names.length : Int) != (l.length : Int)) = false := by rw [a2]; exact bne_self_eq_false _
      by_cases a3 : turn < 0
      · have t3 : decide (turn < 0) = true := decide_eq_true a3
        clear a1 a2 a3 h1 h2 h3 h4 ht
        subst hvl hvn
        go_enter Tryd.func5, Tryd.ntmps5
        go_wp2_with fail
        refine C1.out.mono ?_
        rintro e w1 ⟨rfl, hb1⟩
        have HB1 := Lib.hid hb1
        clear hb1 C1
        have CF := Lib.hid (jfirst_any w1 (HT.out.up HB1.out HB1.out.size))
        go_wp2_with fail
        refine CF.out.mono ?_
        rintro e w99 ⟨rfl, hb99⟩
        have HX := Lib.hid (HB1.out.trans (hb99.mono HB1.out.size))
        clear hb99 CF
        go_wp2_with fail
        go_ret
        exact ⟨rfl, HX.out⟩
      · have t3 : decide (turn < 0) = false := decide_eq_false a3
        by_cases a4 : 1000 < turn
        · have t4 : decide ((1000 : Int) < turn) = true := decide_eq_true a4
          clear a1 a2 a3 a4 h1 h2 h3 h4 ht
          subst hvl hvn
          go_enter Tryd.func5, Tryd.ntmps5
          go_wp2_with fail
          refine C1.out.mono ?_
          rintro e w1 ⟨rfl, hb1⟩
          have HB1 := Lib.hid hb1
          clear hb1 C1
          have CF := Lib.hid (jfirst_any w1 (HT.out.up HB1.out HB1.out.size))
          go_wp2_with fail
          refine CF.out.mono ?_
          rintro e w99 ⟨rfl, hb99⟩
          have HX := Lib.hid (HB1.out.trans (hb99.mono HB1.out.size))
          clear hb99 CF
          go_wp2_with fail
          go_ret
          exact ⟨rfl, HX.out⟩
        · have e1 : (names.zip l).map (fun x => x.2) = l := List.map_snd_zip (by omega)
          have e2 : (names.zip l).map (fun x => x.1) = names := List.map_fst_zip (by omega)
          exact lists_main vl (names.zip l) rows vn turn w h1 (by rw [e1]; exact h2) (by rw [e2]; exact h3) (by rw [List.length_zip]; omega) ⟨by omega, by omega⟩ ht
    · have t2 : ((names.length : Int) != (l.length : Int)) = true := by rw [bne_iff_ne]; omega
      clear a1 a2 h1 h2 h3 h4 ht
      subst hvl hvn
      go_enter Tryd.func5, Tryd.ntmps5
      go_wp2_with fail
      refine C1.out.mono ?_
      rintro e w1 ⟨rfl, hb1⟩
      have HB1 := Lib.hid hb1
      clear hb1 C1
      have CF := Lib.hid (jfirst_any w1 (HT.out.up HB1.out HB1.out.size))
      go_wp2_with fail
      refine CF.out.mono ?_
      rintro e w99 ⟨rfl, hb99⟩
      have HX := Lib.hid (HB1.out.trans (hb99.mono HB1.out.size))
      clear hb99 CF
      go_wp2_with fail
      go_ret
      exact ⟨rfl, HX.out⟩
end Go.Proofs.YtidlhajibjnkeaaDoor
