/- NumSums: the walk. -/
import Derived.Test.YtaelkgebnaeimaaDoorCrc
import Derived.Test.YtaelkgebnaeimaaDoorFirst
import Derived.Deep.RegionHeld3
namespace Go.Proofs.YtaelkgebnaeimaaDoor
open Go.RowKit

section
variable {P : Program} {T E : TypeId} {ops : Array Oper} {rest : List Oper} {o : Oper} {a : Act} {Q : Exit → Act → World → Prop} {w : World}
/-- 'make([]byte, n)' at a step of a region that draws its order. -/
theorem BT.uponMake {K : Act → World → Prop} (B : BT P T E) (n : Nat) (hn : n ≤ 281474976710656)
    (h : ∀ w', Own E w' w.heap.size (.slice (some ⟨w.heap.size, 0, none⟩) n n) (List.replicate n 0) → w.grownBy w' none → K (a.put o.dst (.slice (some ⟨w.heap.size, 0, none⟩) n n)) w') :
    Oper.upon P o a K Q ((Sem.run P (Instr.makeSlice T (.int .i64 (n : Int)) (.int .i64 (n : Int))) w).andThen fun x w' => Result.ok (Next.value x) w') := by
  obtain ⟨i, hi, h1, h2, h3⟩ := info_parts B.info
  obtain ⟨w', hrun, r1, r2⟩ := run_make_full (P := P) w w.heap.size T E i (.int .u8 0) 1 B.t hi h1 h2 .i64 .i64 n (by rw [h3]; omega) (by unfold maxLen; omega) (Nat.le_refl _)
  simp only [hrun, Result.andThen]
  refine h w' ?_ r2
  unfold Own
  have e : (madeCells (Value.int IntKind.u8 0).cells (n * 1)).toList = (List.replicate n (0 : UInt8)).map bv := by
    apply List.ext_getElem?
    intro j
    simp only [madeCells, Nat.mul_one, List.map_replicate]
    by_cases hj : j < n
    · simp [hj, bv, Value.cells, Nat.mod_one]
    · simp [hj]
  rw [e] at r1
  simpa using r1
end

theorem Own.setGrown {E : TypeId} {w : World} {base g n cap : Nat} {l : List UInt8} (h : Own E w base (.slice (some ⟨g, 0, none⟩) n cap) l) (j : Nat) (u : Value) : w.grownBy (w.setCell ⟨g, j, none⟩ u) (some g) := by
  have hn := h.cell.1
  subst hn
  exact (World.ownsRow.stored h j u).2
theorem Own.form {E : TypeId} {w : World} {base : Nat} {v : Value} {l : List UInt8} (h : Own E w base v l) (hl : 0 < l.length) : ∃ g cap, v = .slice (some ⟨g, 0, none⟩) l.length cap ∧ base ≤ g := by
  obtain ⟨g, cap, hv, hb, _⟩ := World.ownsRow.form h hl
  exact ⟨g, cap, hv, hb⟩
theorem xor_u8' (a b : Nat) (ha : a < 256) (hb : b < 256) : bits .xor .u8 (a : Int) (b : Int) = ((a ^^^ b : Nat) : Int) := u8_xor_nat _ _ ha hb
theorem xor_u8 (a b : UInt8) : bits .xor .u8 (a.toNat : Int) (b.toNat : Int) = ((a ^^^ b).toNat : Int) := by
  have := a.toNat_lt
  have := b.toNat_lt
  rw [u8_xor_nat _ _ (by omega) (by omega), UInt8.toNat_xor]

set_option maxRecDepth 100000 in
set_option maxHeartbeats 12800000 in
theorem sums_walk (va : Value) (la : List UInt8) (vb : Value) (lb : List UInt8) (vc : Value) (lc : List UInt8) (p : Int) (x : Int) (w : World) (ha : Rd w va la) (hb : Rd w vb lb) (hc : Rd w vc lc)
    (_h3 : -9223372036854775808 ≤ p ∧ p ≤ 9223372036854775807) (hx : 0 ≤ x ∧ x < 256) (ht : Tab w) :
    Calls Tryd.prog 4 #[va, vb, vc, .int .i64 p, .int .u8 x] w fun e w' => e = .returned (.bool true) ∧ Below w.heap.size w w' := by
  have hla := ha.lens
  have hlb := hb.lens
  have hlc := hc.lens
  have HA := Lib.hid ha
  have HB := Lib.hid hb
  have HC := Lib.hid hc
  have HT := Lib.hid ht
  obtain ⟨aa, ca, rfl, ca1, ca2, _, _⟩ := ha
  obtain ⟨ab, cb, rfl, cb1, cb2, _, _⟩ := hb
  obtain ⟨ac, cc, rfl, cc1, cc2, _, _⟩ := hc
  clear ht
  by_cases hbig : 8000 < la.length ∨ lb.length ≠ la.length ∨ lc.length ≠ la.length
  · have hdec : (8000 : Int) < (la.length : Int) ∨ ((la.length : Int) ≤ 8000 ∧ ((lb.length : Int) != (la.length : Int)) = true) ∨ ((la.length : Int) ≤ 8000 ∧ ((lb.length : Int) != (la.length : Int)) = false ∧ ((lc.length : Int) != (la.length : Int)) = true) := by
      by_cases h1 : 8000 < la.length
      · exact .inl (by omega)
      · by_cases h2 : lb.length = la.length
        · exact .inr (.inr ⟨by omega, by rw [bne_eq_false_iff_eq]; omega, by rw [bne_iff_ne]; omega⟩)
        · exact .inr (.inl ⟨by omega, by rw [bne_iff_ne]; omega⟩)
    clear hbig
    rcases hdec with n1 | ⟨n1, n2⟩ | ⟨n1, n2, n3⟩
    all_goals
      go_enter Tryd.func4, Tryd.ntmps4
      go_wp2_with fail
      refine (first_any _).mono ?_
      rintro e w1 ⟨rfl, hb1⟩
      go_wp2_with fail
      refine (first_any _).mono ?_
      rintro e w2 ⟨rfl, hb2⟩
      go_wp2_with fail
      go_ret
      exact ⟨rfl, hb1.trans (hb2.mono hb1.size)⟩
  · have b1 : (la.length : Int) ≤ 8000 := by omega
    have b2 : lb.length = la.length := by omega
    have b3 : lc.length = la.length := by omega
    have b2' : ((lb.length : Int) != (la.length : Int)) = false := by rw [bne_eq_false_iff_eq]; omega
    have b3' : ((lc.length : Int) != (la.length : Int)) = false := by rw [bne_eq_false_iff_eq]; omega
    have HB2 := Lib.hid b2
    have HB3 := Lib.hid b3
    clear hbig b2 b3
    go_enter Tryd.func4, Tryd.ntmps4
    go_wp2_with fail
    refine (first_any _).mono ?_
    rintro e w1 ⟨rfl, hb1⟩
    have s1 := hb1.size
    go_wp2_with fail
    have hRa := (HA.out.below hb1 (Nat.le_refl _)).drew1
    have hRb := (HB.out.below hb1 (Nat.le_refl _)).drew1
    have hRc := (HC.out.below hb1 (Nat.le_refl _)).drew1
    have hT1 : Tab w1.drew := (HT.out.below hb1 (Nat.le_refl _)).drewN 1
    have hb1d : Below w.heap.size w w1.drew := hb1.drew
    have hle : la.length ≤ 140737488355328 := by omega
    have hle2 : la.length ≤ 281474976710656 := by omega
    go_region_held3 (fun _ => True) (trivial)
      ((first
        | (go_at_call 13
           refine (copy_any _ la _ ?_ hle).mono ?_
           · first | exact hRa | exact hRa.below ((Below.refl w1.drew.heap.size _).grown hg2 (Nat.le_refl _) (fun _ h => by cases h)) (Nat.le_refl _)
           rintro e w3 ⟨t, rfl, ho3, hb3⟩)
        | (refine btc.uponMake la.length hle2 ?_
           intro w2 ho2 hg2)
        | fail))
    all_goals first
      | (have hk : Below w2.heap.size w2 w3 := hb3
         clear hk
         have hB2 : Below w1.drew.heap.size w1.drew w2 := (Below.refl _ _).grown hg2 (Nat.le_refl _) (fun _ h => by cases h)
         have hodw := (ho2.below hb3 (Nat.le_refl _)).mono (base' := w.heap.size) s1
         have hot := ho3.mono (base' := w1.drew.heap.size) hB2.size
         have hne : t.ownBlock ≠ some w1.drew.heap.size := fun e => by
           have h1 := (ho3.base _ e).1
           have h2 := (ho2.base w1.drew.heap.size rfl).2
           omega
         have hbW : Below w1.drew.heap.size w1.drew w3 := hB2.trans (hb3.mono hB2.size)
         clear ho2 hg2 ho3 hb3 hB2
         obtain ⟨W, rfl⟩ : ∃ W, W = w3 := ⟨_, rfl⟩
         obtain ⟨g, hg⟩ : ∃ g, g = w1.heap.size := ⟨_, rfl⟩
         rw [show w1.drew.heap.size = w1.heap.size from rfl, ← hg] at hne
         rw [show w1.drew.heap.size = w1.heap.size from rfl, ← hg] at hodw
         rw [← hg]
         clear hg)
      | (have hodw := ho2.mono (base' := w.heap.size) (Nat.le_trans s1 hb3.size)
         have hot := ho3.kept hg2 (by cases t.ownBlock <;> simp)
         have hne : t.ownBlock ≠ some w3.heap.size := fun e => by
           have h2 := (ho3.base _ e).2
           omega
         have hbW : Below w1.drew.heap.size w1.drew w2 := hb3.grown hg2 hb3.size (fun _ h => by cases h)
         clear ho2 hg2 ho3
         obtain ⟨W, rfl⟩ : ∃ W, W = w2 := ⟨_, rfl⟩
         obtain ⟨g, hg⟩ : ∃ g, g = w3.heap.size := ⟨_, rfl⟩
         rw [← hg] at hne hodw
         rw [← hg]
         clear hg hb3)
    all_goals
      have hg : w.heap.size ≤ g := (hodw.base g rfl).1
      have hotw := hot.mono (base' := w.heap.size) s1
      have hbWw : Below w.heap.size w W := hb1d.trans (hbW.mono s1)
      clear hot hbW hRa hRb hRc hT1 hb1d hb1
      go_wp2_with fail
      go_loopw [13] (fun i wr => ∃ k : Nat, k ≤ la.length ∧ i = .int .i64 k ∧ Own 5 wr w.heap.size (.slice (some ⟨g, 0, none⟩) la.length la.length) (xorK la lb lc la.length k) ∧ Own 5 wr w.heap.size t la ∧ Below w.heap.size w wr)
        (fun i _ => la.length - (intOf i).toNat)
      case atStart => exact ⟨0, Nat.zero_le _, rfl, by rw [xorK_zero]; exact hodw, hotw, hbWw⟩
      case round =>
        obtain ⟨k, hk, rfl, hd, ht, hbw⟩ := hrel
        by_cases hlt : k < la.length
        · have hlt' : (k : Int) < (la.length : Int) := by omega
          have hkb : k < lb.length := by rw [HB2.out]; exact hlt
          have hkc : k < lc.length := by rw [HB3.out]; exact hlt
          obtain ⟨ba, oa, rfl, hca⟩ : ∃ b off, aa = some ⟨b, off, none⟩ ∧ w.cell? ⟨b, off + k, none⟩ = some (bv la[k]) := by
            obtain ⟨a', cap', hv, _, _, _, h4⟩ := HA.out
            simp only [Value.slice.injEq] at hv
            obtain ⟨rfl, _, _⟩ := hv
            obtain ⟨b, off, h, hc⟩ := h4 (by intro e; subst e; simp at hlt)
            exact ⟨b, off, h, hc k hlt⟩
          obtain ⟨bb, ob, rfl, hcb⟩ : ∃ b off, ab = some ⟨b, off, none⟩ ∧ w.cell? ⟨b, off + k, none⟩ = some (bv lb[k]) := by
            obtain ⟨a', cap', hv, _, _, _, h4⟩ := HB.out
            simp only [Value.slice.injEq] at hv
            obtain ⟨rfl, _, _⟩ := hv
            obtain ⟨b, off, h, hc⟩ := h4 (by intro e; subst e; simp at hkb)
            exact ⟨b, off, h, hc k hkb⟩
          obtain ⟨bc, oc, rfl, hcc⟩ : ∃ b off, ac = some ⟨b, off, none⟩ ∧ w.cell? ⟨b, off + k, none⟩ = some (bv lc[k]) := by
            obtain ⟨a', cap', hv, _, _, _, h4⟩ := HC.out
            simp only [Value.slice.injEq] at hv
            obtain ⟨rfl, _, _⟩ := hv
            obtain ⟨b, off, h, hc⟩ := h4 (by intro e; subst e; simp at hkc)
            exact ⟨b, off, h, hc k hkc⟩
          have nea : g ≠ ba := by have := World.block_lt_of_cell? w _ hca; simp at this; omega
          have neb : g ≠ bb := by have := World.block_lt_of_cell? w _ hcb; simp at this; omega
          have nec : g ≠ bc := by have := World.block_lt_of_cell? w _ hcc; simp at this; omega
          rw [← hbw.cell (p := ⟨ba, oa + k, none⟩) (World.block_lt_of_cell? w _ hca)] at hca
          rw [← hbw.cell (p := ⟨bb, ob + k, none⟩) (World.block_lt_of_cell? w _ hcb)] at hcb
          rw [← hbw.cell (p := ⟨bc, oc + k, none⟩) (World.block_lt_of_cell? w _ hcc)] at hcc
          have hset := hd.set k (la.getD k 0 ^^^ lb.getD k 0 ^^^ lc.getD k 0) _ rfl
          rw [xorK_step] at hset
          have hsg := hd.setGrown k (bv (la.getD k 0 ^^^ lb.getD k 0 ^^^ lc.getD k 0))
          have hts := ht.kept hsg (.inr hne)
          have hbs := hbw.setCell (p := ⟨g, k, none⟩) hg (bv (la.getD k 0 ^^^ lb.getD k 0 ^^^ lc.getD k 0))
          have hfr := hd.cell.2.2 k
          obtain ⟨xd, hxd⟩ : ∃ x, wr.cell? ⟨g, k, none⟩ = some x := ⟨_, hd.cell.2.1 k (by rw [xorK_length]; exact hlt)⟩
          have ga : la.getD k 0 = la[k] := by simp [List.getD, List.getElem?_eq_getElem hlt]
          have gb : lb.getD k 0 = lb[k] := by simp [List.getD, List.getElem?_eq_getElem hkb]
          have gc : lc.getD k 0 = lc[k] := by simp [List.getD, List.getElem?_eq_getElem hkc]
          rw [ga, gb, gc] at hset hts hbs
          clear ga gb gc hsg
          generalize la[k] = xa at *
          generalize lb[k] = xb at *
          generalize lc[k] = xc at *
          unfold bv at hca hcb hcc
          have la255 := xa.toNat_lt
          have lb255 := xb.toNat_lt
          have lc255 := xc.toNat_lt
          have e1 := xor_u8' xa.toNat xb.toNat la255 lb255
          have e2 := xor_u8' (xa.toNat ^^^ xb.toNat) xc.toNat (Nat.xor_lt_two_pow (n := 8) la255 lb255) lc255
          have e3 : bv (xa ^^^ xb ^^^ xc) = .int .u8 ((xa.toNat ^^^ xb.toNat ^^^ xc.toNat : Nat) : Int) := by unfold bv; rw [UInt8.toNat_xor, UInt8.toNat_xor]
          rw [e3] at hset hts hbs
          clear e3
          have HS1 := Lib.hid hset
          have HS2 := Lib.hid hts
          have HS3 := Lib.hid hbs
          clear hset hts hbs
          have r1 : (0 : Int) ≤ (k : Int) := by omega
          go_wp2_with fail
          go_region_held3 (fun w' => w'.cell? ⟨ba, oa + k, none⟩ = some (.int .u8 (xa.toNat : Int)) ∧ w'.cell? ⟨bb, ob + k, none⟩ = some (.int .u8 (xb.toNat : Int)) ∧ w'.cell? ⟨bc, oc + k, none⟩ = some (.int .u8 (xc.toNat : Int)))
            (go_keep) (fail)
          go_wp2_with fail
          go_roundw
          case rel => exact ⟨k + 1, by omega, by go_num, HS1.out, HS2.out, HS3.out.drew⟩
          case measure => simp [intOf]; omega
        · have hlt' : ¬ (k : Int) < (la.length : Int) := by omega
          obtain rfl : k = la.length := by omega
          rw [xorK_all] at hd
          have hRd := hd.rd
          have hRa := HA.out.below hbw (Nat.le_refl _)
          have hRb := HB.out.below hbw (Nat.le_refl _)
          have hRc := HC.out.below hbw (Nat.le_refl _)
          have hTw := HT.out.below hbw (Nat.le_refl _)
          have hlin := crcN_xor3 la lb lc HB2.out HB3.out
          have lA := crcN_lt la
          have lB := crcN_lt lb
          have lC := crcN_lt lc
          have x1 := u32_xor_nat _ _ lA lB
          have x2 := u32_xor_nat _ _ (xor_lt _ _ lA lB) lC
          have hnn : (((crcN la ^^^ crcN lb ^^^ crcN lc : Nat) : Int) != ((crcN la ^^^ crcN lb ^^^ crcN lc : Nat) : Int)) = false := by simp
          have HL := Lib.hid hlin
          clear hlin hd
          go_wp2_with fail
          refine (crc_any _ _ _ hRd hTw).mono ?_
          rintro e w5 ⟨rfl, rfl⟩
          rw [HL.out]
          go_wp2_with fail
          refine (crc_any _ _ _ hRa hTw).mono ?_
          rintro e w5 ⟨rfl, rfl⟩
          go_wp2_with fail
          refine (crc_any _ _ _ hRb hTw).mono ?_
          rintro e w5 ⟨rfl, rfl⟩
          go_wp2_with fail
          refine (crc_any _ _ _ hRc hTw).mono ?_
          rintro e w5 ⟨rfl, rfl⟩
          by_cases hno : p < 0 ∨ (la.length : Int) ≤ p ∨ x = 0
          · have hdec : p < 0 ∨ (0 ≤ p ∧ (la.length : Int) ≤ p) ∨ (0 ≤ p ∧ p < (la.length : Int) ∧ (x == 0) = true) := by
              rcases Int.lt_or_le p 0 with h | h
              · exact .inl h
              · rcases Int.lt_or_le p (la.length : Int) with h2 | h2
                · exact .inr (.inr ⟨h, h2, by rw [beq_iff_eq]; omega⟩)
                · exact .inr (.inl ⟨h, h2⟩)
            clear hno
            rcases hdec with n1 | ⟨n1, n2⟩ | ⟨n1, n2, n3⟩
            all_goals
              go_wp2_with fail
              refine (first_any _).mono ?_
              rintro e w6 ⟨rfl, hb6⟩
              go_wp2_with fail
              go_ret
              exact ⟨rfl, hbw.trans (hb6.mono hbw.size)⟩
          · have n1 : 0 ≤ p := by omega
            have n2 : p < (la.length : Int) := by omega
            obtain ⟨q, rfl⟩ := Int.eq_ofNat_of_zero_le n1
            obtain ⟨c, hcx, hc0⟩ : ∃ c : UInt8, x = (c.toNat : Int) ∧ c ≠ 0 := by
              refine ⟨UInt8.ofNat x.toNat, by rw [UInt8.toNat_ofNat']; omega, fun h => ?_⟩
              have := congrArg UInt8.toNat h
              rw [UInt8.toNat_ofNat'] at this
              simp at this
              omega
            subst hcx
            have hq : q < la.length := by omega
            have n3 : ((c.toNat : Int) == 0) = false := by
              rw [beq_eq_false_iff_ne]
              intro h
              exact hc0 (UInt8.toNat_inj.1 (by simpa using h))
            obtain ⟨gt, ct, rfl, hgt⟩ := ht.form (by omega)
            have hct := ht.cell.2.1 q hq
            have hft := ht.cell.2.2 q
            have hturn := crc_turn la q hq (la[q] ^^^ c) (fun h => hc0 (by
              have := congrArg (la[q] ^^^ ·) h
              simpa [← UInt8.xor_assoc] using this))
            have hset := ht.set q (la[q] ^^^ c) _ rfl
            have hbs := hbw.setCell (p := ⟨gt, q, none⟩) hgt (bv (la[q] ^^^ c))
            generalize la[q] = xa at *
            unfold bv at hct
            have la255 := xa.toNat_lt
            have lc255 := c.toNat_lt
            have e1 := xor_u8' xa.toNat c.toNat la255 lc255
            have e3 : bv (xa ^^^ c) = .int .u8 ((xa.toNat ^^^ c.toNat : Nat) : Int) := by unfold bv; rw [UInt8.toNat_xor]
            rw [e3] at hset hbs
            have hne2 : (((crcN (la.set q (xa ^^^ c)) : Nat) : Int) != ((crcN la : Nat) : Int)) = true := by rw [bne_iff_ne]; omega
            have n4 : (q : Int) < (la.length : Int) := n2
            have HS := Lib.hid hset
            have HBS := Lib.hid hbs
            have HNE := Lib.hid hne2
            clear hno e3 hset hbs hturn hne2 hc0
            go_wp2_with fail
            refine (first_any _).mono ?_
            rintro e w6 ⟨rfl, hb6⟩
            have s6 := HBS.out.size
            have hbz := HBS.out.trans (hb6.mono s6)
            have hRt := HS.out.rd.below hb6 (Nat.le_refl _)
            have hRa6 := HA.out.below hbz (Nat.le_refl _)
            have hT6 := HT.out.below hbz (Nat.le_refl _)
            go_wp2_with fail
            refine (crc_any _ _ _ hRt hT6).mono ?_
            rintro e w7 ⟨rfl, rfl⟩
            go_wp2_with fail
            refine (crc_any _ _ _ hRa6 hT6).mono ?_
            rintro e w7 ⟨rfl, rfl⟩
            have hne3 := HNE.out
            go_wp2_with fail
            go_ret
            exact ⟨rfl, hbz⟩
end Go.Proofs.YtaelkgebnaeimaaDoor
