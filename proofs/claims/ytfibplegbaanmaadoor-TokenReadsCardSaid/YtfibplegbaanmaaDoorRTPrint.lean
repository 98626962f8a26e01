/- hblref20's Print, by its contract. -/
import Derived.Test.YtfibplegbaanmaaDoorRTMay
import Derived.Test.YtfibplegbaanmaaDoorRTVar
import Derived.Test.YtfibplegbaanmaaDoorPrint
import Derived.Test.YtfibplegbaanmaaDoorStep22
import Derived.Test.YtfibplegbaanmaaDoorRefPut
import Derived.Test.YtfibplegbaanmaaDoorRef1
namespace Go.Proofs.YtfibplegbaanmaaDoor
open Go.RowKit

theorem tk3 {W : World} {b : Nat} {u k : List UInt8} {f t : Int} (h : TK W b u f t k) : W.cell? ⟨b, 0, none⟩ = some (str u) ∧ W.cell? ⟨b, 1, none⟩ = some (.int .i64 f) ∧ W.cell? ⟨b, 2, none⟩ = some (.int .i64 t) ∧ W.cell? ⟨b, 3, none⟩ = some (str k) := ⟨h.c0, h.c1, h.c2, h.c3⟩
theorem tk012 {W : World} {b : Nat} {u k : List UInt8} {f t : Int} (h : TK W b u f t k) : W.cell? ⟨b, 0, none⟩ = some (str u) ∧ W.cell? ⟨b, 1, none⟩ = some (.int .i64 f) ∧ W.cell? ⟨b, 2, none⟩ = some (.int .i64 t) := ⟨h.c0, h.c1, h.c2⟩
/-- What lies on while it is told: the box, the row of bytes. -/
structure PI22 (w wr : World) (B : Nat) (u k : List UInt8) (f t : Int) (v : Value) (l : List UInt8) : Prop where
  tk : TK wr w.heap.size u f t k
  own : Own 5 wr B v l
  lt : w.heap.size < B
  le : B ≤ wr.heap.size
  b : Below w.heap.size w wr
theorem PI22.up {w W W' : World} {B : Nat} {u k l : List UInt8} {f t : Int} {v : Value} (h : PI22 w W B u k f t v l) (hb : Below W.heap.size W W') : PI22 w W' B u k f t v l :=
  ⟨h.tk.below hb h.tk.lt, h.own.below hb (Nat.le_refl _), h.lt, Nat.le_trans h.le hb.size, h.b.trans (hb.mono h.b.size)⟩
theorem PI22.grow {w W W' : World} {B : Nat} {u k l l' : List UInt8} {f t : Int} {v v' : Value} (h : PI22 w W B u k f t v l) (hg : W.grownBy W' v.ownBlock) (ho : Own 5 W' B v' l') : PI22 w W' B u k f t v' l' := by
  have hb := h.own.grows hg (Nat.le_refl _) h.le
  exact ⟨h.tk.below hb h.lt, ho, h.lt, Nat.le_trans h.le hb.size, h.b.trans (hb.mono (Nat.le_of_lt h.lt))⟩
theorem PI22.drew {w W : World} {B : Nat} {u k l : List UInt8} {f t : Int} {v : Value} (h : PI22 w W B u k f t v l) : PI22 w W.drew B u k f t v l :=
  ⟨h.tk, h.own, h.lt, h.le, Below.drewsN h.b 1⟩
set_option maxRecDepth 100000 in
set_option maxHeartbeats 6400000 in
theorem tprint_any (u k : List UInt8) (f t : Int) (w : World) (hu : u.length ≤ 9223372036854775807) (hk : k.length ≤ 9223372036854775807) (hf : -9223372036854775808 ≤ f ∧ f ≤ 9223372036854775807) (ht : -9223372036854775808 ≤ t ∧ t ≤ 9223372036854775807) :
    Calls Tryd.prog 9 #[tok u f t k] w fun e w' => e = printE u f t k ∧ Below w.heap.size w w' := by
  have HM := Lib.hid (fun W => tmay_any u k f t W hu hk hf ht)
  have hbx := below_alloc w (.cells #[str u, .int .i64 f, .int .i64 t, str k] 28)
  have htk := TK.made w u k f t 28
  cases hm : mayB u f t k
  · have hv : printE u f t k = .returned (.tuple #[str [], .int .i64 4]) := by rw [printE, hm]; rfl
    have HV := Lib.hid hv
    have HB := Lib.hid hm
    clear hv hm
    go_enter Tryd.func9, Tryd.ntmps9
    go_wp2_with fail
    refine (HM.out _).mono ?_
    rintro e w1 ⟨rfl, hb1⟩
    rw [HB.out]
    go_wp2_with fail
    go_ret2
    exact ⟨by rw [HV.out]; rfl, hbx.trans (hb1.mono hbx.size)⟩
  have hv : printE u f t k = .returned (.tuple #[str (textT u f.toNat t.toNat k), .int .i64 0]) := by rw [printE, hm]; rfl
  obtain ⟨b1, b2, b3, b4, b5, b6, b7⟩ := mayB_bounds hm
  obtain ⟨fn, hfn⟩ : ∃ fn : Nat, (fn : Int) = f := ⟨f.toNat, by omega⟩
  obtain ⟨tn, htn⟩ : ∃ tn : Nat, (tn : Int) = t := ⟨t.toNat, by omega⟩
  have hfn2 : f.toNat = fn := by omega
  have htn2 : t.toNat = tn := by omega
  rw [hfn2, htn2] at hv
  have v1 : (varL fn).length ≤ 8 := varL_len 7 fn (by omega)
  have v2 : (varL tn).length ≤ 8 := varL_len 7 tn (by omega)
  have v3 : (varL u.length).length ≤ 8 := varL_len 7 u.length (by omega)
  have v4 : (varL k.length).length ≤ 8 := varL_len 7 k.length (by omega)
  have HV := Lib.hid hv
  have HB := Lib.hid hm
  have CF := Lib.hid (fun W => (show Calls Tryd.prog 19 #[.int .i64 f] W fun e w' => ∃ v, e = .returned v ∧ Own 5 w' W.heap.size v (varL fn) ∧ Below W.heap.size W w' by rw [← hfn]; exact tnum_ok fn W (by omega)))
  have CT := Lib.hid (fun W => (show Calls Tryd.prog 19 #[.int .i64 t] W fun e w' => ∃ v, e = .returned v ∧ Own 5 w' W.heap.size v (varL tn) ∧ Below W.heap.size W w' by rw [← htn]; exact tnum_ok tn W (by omega)))
  have CU := Lib.hid (fun W => tnum_ok u.length W (by omega))
  have CK := Lib.hid (fun W => tnum_ok k.length W (by omega))
  clear hv hm hfn2 htn2 hfn htn
  go_enter Tryd.func9, Tryd.ntmps9
  go_wp2_with fail
  refine (HM.out _).mono ?_
  rintro e w1 ⟨rfl, hb1⟩
  rw [HB.out]
  have hk1 : TK w1 w.heap.size u f t k := htk.below hb1 htk.lt
  have HKD := Lib.hid (show TK w1.drew w.heap.size u f t k from hk1)
  have HBD := Lib.hid (below_undrew' (hbx.trans (hb1.mono hbx.size)))
  obtain ⟨x0, x1, x2, x3⟩ := tk3 HKD.out
  clear hb1 htk hbx hk1
  go_wp2_with fail
  obtain ⟨B, hBe⟩ : ∃ B, B = w1.heap.size := ⟨_, rfl⟩
  have HLT : Hid (w.heap.size < B) := Lib.hid (by rw [hBe]; exact HKD.out.lt)
  have HBe := Lib.hid hBe
  clear hBe
  go_region_held3 (fun W => W.cell? ⟨w.heap.size, 0, none⟩ = some (str u) ∧ W.cell? ⟨w.heap.size, 1, none⟩ = some (.int .i64 f) ∧ W.cell? ⟨w.heap.size, 2, none⟩ = some (.int .i64 t))
    (first
      | (exact tk012 P10.out.tk)
      | (exact tk012 P9.out.tk)
      | (exact tk012 P8.out.tk)
      | (exact tk012 P7.out.tk)
      | (exact tk012 P6.out.tk)
      | (exact tk012 P5.out.tk)
      | (exact tk012 HKD.out)
      | go_keep)
    ((first
      | (go_at_call 19
         (with_reducible refine (CF.out _).mono ?_)
         rintro e w5 ⟨v5, rfl, ho5, hb5⟩
         have P5 : Hid (PI22 w w5 B u k f t v5 (varL fn)) := Lib.hid ⟨HKD.out.below hb5 HKD.out.lt, by rw [HBe.out]; exact ho5, HLT.out, by rw [HBe.out]; exact hb5.size, HBD.out.trans (hb5.mono HBD.out.size)⟩
         obtain ⟨a5, n5, c5, rfl⟩ := ho5.form
         clear ho5 hb5)
      | (go_at_call 19
         (with_reducible refine (CT.out _).mono ?_)
         rintro e w6 ⟨v6, rfl, ho6, hb6⟩
         have P6 := Lib.hid (P5.out.up hb6)
         have R6 := Lib.hid ho6.rd
         obtain ⟨a6, n6, c6, rfl⟩ := ho6.form
         clear ho6 hb6)
      | (refine bt.stepAppend (by rfl) _ _ (by rfl) B (.slice a5 n5 c5) (varL fn) (varL tn) (by rfl) ?_ ?_ ?_ ?_ ?_
         · exact P6.out.own
         · exact R6.out
         · omega
         · exact P6.out.le
         intro v7 w7 ho7 hg7
         have P7 := Lib.hid (P6.out.grow hg7 ho7)
         obtain ⟨a7, n7, c7, rfl⟩ := ho7.form
         clear ho7 hg7)
      | (go_at_call 19
         (with_reducible refine (CU.out _).mono ?_)
         rintro e w8 ⟨v8, rfl, ho8, hb8⟩
         have P8 := Lib.hid (P7.out.up hb8)
         have R8 := Lib.hid ho8.rd
         obtain ⟨a8, n8, c8, rfl⟩ := ho8.form
         clear ho8 hb8)
      | (refine bt.stepAppend (by rfl) _ _ (by rfl) B (.slice a7 n7 c7) (varL fn ++ varL tn) (varL u.length) (by rfl) ?_ ?_ ?_ ?_ ?_
         · exact P8.out.own
         · exact R8.out
         · simp; omega
         · exact P8.out.le
         intro v9 w9 ho9 hg9
         have P9 := Lib.hid (P8.out.grow hg9 ho9)
         obtain ⟨a9, n9, c9, rfl⟩ := ho9.form
         clear ho9 hg9)
      | (refine bt.stepAppendStr Tryd.underlying9 (by rfl) _ _ (by rfl) B (.slice a9 n9 c9) (varL fn ++ varL tn ++ varL u.length) u (by rfl) ?_ ?_ ?_ ?_ ?_
         · exact P9.out.own
         · rfl
         · simp; omega
         · exact P9.out.le
         intro a10 n10 c10 w10 ho10 hg10
         have P10 := Lib.hid (P9.out.grow hg10 ho10)
         clear ho10 hg10)
      | fail))
  have HKP : Hid (PI22 w w10.drew B u k f t (.slice a10 n10 c10) (varL fn ++ varL tn ++ varL u.length ++ u)) := Lib.hid P10.out.drew
  clear P5 P6 P7 P8 P9 P10 R6 R8 CF CT CU HKD HBD HBe x0 x1 x2 x3
  go_wp2_with fail
  have y3 := HKP.out.tk.c3
  go_region_held3 (fun W => W.cell? ⟨w.heap.size, 3, none⟩ = some (str k))
    (first
      | (exact Q13.out.tk.c3)
      | (exact Q12.out.tk.c3)
      | (exact Q11.out.tk.c3)
      | (exact HKP.out.tk.c3)
      | go_keep)
    ((first
      | (go_at_call 19
         (with_reducible refine (CK.out _).mono ?_)
         rintro e w11 ⟨v11, rfl, ho11, hb11⟩
         have Q11 := Lib.hid (HKP.out.up hb11)
         have R11 := Lib.hid ho11.rd
         obtain ⟨a11, n11, c11, rfl⟩ := ho11.form
         clear ho11 hb11)
      | (refine bt.stepAppend (by rfl) _ _ (by rfl) B (.slice a10 n10 c10) (varL fn ++ varL tn ++ varL u.length ++ u) (varL k.length) (by rfl) ?_ ?_ ?_ ?_ ?_
         · exact Q11.out.own
         · exact R11.out
         · simp; omega
         · exact Q11.out.le
         intro v12 w12 ho12 hg12
         have Q12 := Lib.hid (Q11.out.grow hg12 ho12)
         obtain ⟨a12, n12, c12, rfl⟩ := ho12.form
         clear ho12 hg12)
      | (refine bt.stepAppendStr Tryd.underlying9 (by rfl) _ _ (by rfl) B (.slice a12 n12 c12) (varL fn ++ varL tn ++ varL u.length ++ u ++ varL k.length) k (by rfl) ?_ ?_ ?_ ?_ ?_
         · exact Q12.out.own
         · rfl
         · simp; omega
         · exact Q12.out.le
         intro a13 n13 c13 w13 ho13 hg13
         have Q13 := Lib.hid (Q12.out.grow hg13 ho13)
         clear ho13 hg13)
      | fail))
  obtain ⟨bd, hbd⟩ : ∃ bd, bd = bodyT u fn tn k := ⟨_, rfl⟩
  have HOW : Hid (Own 5 w13 B (.slice a13 n13 c13) bd) := Lib.hid (by
    rw [hbd]
    have := Q13.out.own
    unfold bodyT
    simp only [List.append_assoc] at this ⊢
    exact this)
  have HB13 := Lib.hid Q13.out.b
  have HLE := Lib.hid Q13.out.le
  have hlen : bd.length ≤ 200 := by rw [hbd]; unfold bodyT; simp; omega
  have HBDY := Lib.hid hbd
  clear hbd Q11 Q12 Q13 R11 CK HKP y3
  have hc := crcN_lt bd
  have hcw : IntKind.i64.wrap ((crcN bd : Nat) : Int) = ((crcN bd : Nat) : Int) := IntWalk.i64_in _ ⟨by omega, by omega⟩
  go_wp2_with fail
  refine (refCrc_any _ bd _ HOW.out.rd).mono ?_
  rintro e wq ⟨rfl, hwq⟩
  replace hwq := hwq.symm
  subst hwq
  obtain ⟨cc, hcc⟩ : ∃ cc, cc = crcN bd := ⟨_, rfl⟩
  rw [← hcc] at hc hcw ⊢
  have HCC := Lib.hid hcc
  clear hcc
  go_wp2_with fail
  refine (rput_ok cc 4 _ (by omega) (by omega) (by omega)).mono ?_
  rintro e w14 ⟨v14, rfl, ho14, hb14⟩
  have hown := HOW.out.below hb14 (Nat.le_refl _)
  have hB14 := HB13.out.trans (hb14.mono HB13.out.size)
  have hs14 : B ≤ w14.heap.size := by have := hb14.size; have := HLE.out; omega
  have hpl := putL_length cc 4
  have hlt := HLT.out
  go_wp2_with (at_builtin; refine hold ?_)
  intro _
  refine bt.appendS rfl _ _ rfl B _ _ bd (putL cc 4) hown ho14.rd rfl rfl (by omega) hs14 ?_
  intro v15 w15 ho15 hg15
  have hB15 := hB14.grown hg15 (by omega) (fun b e => by have := (hown.base b e).1; omega)
  go_wp2_with fail
  refine (refHex_any _ _ _ ho15.rd (by simp; omega)).mono ?_
  rintro e w16 ⟨rfl, hb16⟩
  go_wp2_with fail
  go_ret2
  refine ⟨?_, hB15.trans (hb16.mono hB15.size)⟩
  rw [HV.out, textT, ← HBDY.out, ← HCC.out]
  rfl
end Go.Proofs.YtfibplegbaanmaaDoor
