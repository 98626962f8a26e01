import Derived.Test.YtegblhmcfemfgaaGreatDoorStep
import Derived.Test.YtegblhmcfemfgaaGreatDoorRSign
import Derived.Test.YtegblhmcfemfgaaGreatDoorQuote
import Derived.Test.YtegblhmcfemfgaaGreatDoorTLaw
import Derived.Deep.RegionHeld3
namespace Go.Proofs.YtegblhmcfemfgaaGreatDoor
end Go.Proofs.YtegblhmcfemfgaaGreatDoor

set_option maxRecDepth 100000
set_option maxHeartbeats 3200000
namespace Go.Proofs.YtegblhmcfemfgaaGreatDoor
open Go.RowKit

theorem refHex_any (x : Value) (l : List UInt8) (w : World) (hx : Rd w x l) (hl : l.length ≤ 70368744177664) :
 Calls Tryz.prog 149 #[x] w fun e w' => e = .returned (str (hexL l)) ∧ Below w.heap.size w w' := by
 obtain ⟨a, cap, rfl, hc1, hc2, hc3, hc4⟩ := hx
 have H4 := Lib.hid hc4
 clear hc4 hc3
 go_enter Tryz.func149, Tryz.ntmps149
 go_wp2_with fail
 go_loopw [4, 5] (fun v i wr => ∃ k : Nat, k ≤ l.length ∧ i = .int .i64 k ∧ Own 5 wr w.heap.size v (hexL (l.take k)) ∧ Below w.heap.size w wr)
  (fun _ i _ => l.length - (intOf i).toNat)
 case atStart => exact ⟨0, Nat.zero_le _, rfl, Own.nil _ _ _, Below.refl _ _⟩
 case round =>
  obtain ⟨k, hk, rfl, hown, hb⟩ := hrel
  by_cases hlt : k < l.length
  · have hlt' : (k : Int) < (l.length : Int) := by omega
    have hk0 : (0 : Int) ≤ (k : Int) := by omega
    obtain ⟨b, off, rfl, hcell⟩ := H4.out (by intro e; subst e; simp at hlt)
    have hc := hcell k hlt
    have hbl : b < w.heap.size := World.block_lt_of_cell? w _ hc
    rw [← hb.cell (p := ⟨b, off + k, none⟩) hbl] at hc
    obtain ⟨c, hce⟩ : ∃ c, c = l[k] := ⟨_, rfl⟩
    rw [← hce] at hc
    unfold bv at hc
    have hts : l.take (k + 1) = l.take k ++ [c] := by rw [hce]; exact List.take_succ_eq_append_getElem hlt
    have HTS := Lib.hid hts
    have ha := and15 c
    have hc255 := c.toNat_lt
    clear hcell hce hts
    have q1 : (0 : Int) ≤ (c.toNat : Int) / 16 := by omega
    have q2 : (c.toNat : Int) / 16 < 16 := by omega
    have q3 : (0 : Int) ≤ (c.toNat : Int) % 16 := by omega
    have q4 : (c.toNat : Int) % 16 < 16 := by omega
    have hsz := hb.size
    have hL := hexL_length (l.take k)
    have hLt : (l.take k).length = k := by simp; omega
    rw [hLt] at hL
    have HL := Lib.hid hL
    clear hL hLt
    go_wp2_with fail
    go_region_held3 (fun w' => w'.cell? ⟨b, off + k, none⟩ = some (.int .u8 (c.toNat : Int)))
     (first
       | go_keep
       | (rw [hg10.cell_far ⟨b, off + k, none⟩ (by show b < _; simp; omega) (fun e => by have := (hown.base b e.symm).1; omega)]; first | assumption | go_keep))
     ((first
       | (refine bt.stepAppend (by rfl) _ _ (by rfl) w.heap.size u4 (hexL (l.take k)) [hexS (c.toNat / 16), hexS (c.toNat % 16)] (by rfl) ?_ ?_ ?_ ?_ ?_
          · exact (hown.alloc _)
          · exact Rd.two _ _ _ _ _ _ _ (hex_at _ (by omega) _ _ (by omega)) (hex_at _ (by omega) _ _ (by omega)) (by simp)
          · rw [HL.out]; simp; omega
          · simp; omega
          intro v10 w10 ho10 hg10)
       | fail))
    all_goals
     have hbX : Below w.heap.size w w10 := by
      refine Below.grown ?_ hg10 (by simp; omega) (fun b e => (hown.base b e).1)
      exact (hb.drew.alloc (by simp; omega) _)
     go_wp2_with fail
     go_roundw
     case rel => exact ⟨k + 1, by omega, by go_num, by rw [HTS.out, hexL_snoc]; exact ho10, hbX⟩
     case measure => simp [intOf]; omega
  have hlt' : ¬ (k : Int) < (l.length : Int) := by omega
  obtain rfl : k = l.length := by omega
  rw [List.take_length] at hown
  have hconv := bt.toString (w := wr) (S := 9) Tryz.underlying9 hown.rd
  go_wp2_with fail
  go_ret
  exact ⟨rfl, hb⟩
theorem refShort_any (c : UInt8) (w : World) : Calls Tryz.prog 148 #[.int .u8 (c.toNat : Int)] w fun e w' => e = .returned (.int .u8 ((shB c).toNat : Int)) ∧ w' = w := by
 by_cases h34 : c.toNat = 34
 · rw [show shB c = 34 by simp [shB, h34], show (c.toNat : Int) = 34 by omega]
   go_enter Tryz.func148, Tryz.ntmps148
   go_wp2
   go_ret
   exact ⟨rfl, rfl⟩
 by_cases h92 : c.toNat = 92
 · rw [show shB c = 92 by simp [shB, h92], show (c.toNat : Int) = 92 by omega]
   go_enter Tryz.func148, Tryz.ntmps148
   go_wp2
   go_ret
   exact ⟨rfl, rfl⟩
 by_cases h8 : c.toNat = 8
 · rw [show shB c = 98 by simp [shB, h8], show (c.toNat : Int) = 8 by omega]
   go_enter Tryz.func148, Tryz.ntmps148
   go_wp2
   go_ret
   exact ⟨rfl, rfl⟩
 by_cases h12 : c.toNat = 12
 · rw [show shB c = 102 by simp [shB, h12], show (c.toNat : Int) = 12 by omega]
   go_enter Tryz.func148, Tryz.ntmps148
   go_wp2
   go_ret
   exact ⟨rfl, rfl⟩
 by_cases h10 : c.toNat = 10
 · rw [show shB c = 110 by simp [shB, h10], show (c.toNat : Int) = 10 by omega]
   go_enter Tryz.func148, Tryz.ntmps148
   go_wp2
   go_ret
   exact ⟨rfl, rfl⟩
 by_cases h13 : c.toNat = 13
 · rw [show shB c = 114 by simp [shB, h13], show (c.toNat : Int) = 13 by omega]
   go_enter Tryz.func148, Tryz.ntmps148
   go_wp2
   go_ret
   exact ⟨rfl, rfl⟩
 by_cases h9 : c.toNat = 9
 · rw [show shB c = 116 by simp [shB, h9], show (c.toNat : Int) = 9 by omega]
   go_enter Tryz.func148, Tryz.ntmps148
   go_wp2
   go_ret
   exact ⟨rfl, rfl⟩
 have e34 : ((c.toNat : Int) == 34) = false := by rw [beq_eq_false_iff_ne]; omega
 have e92 : ((c.toNat : Int) == 92) = false := by rw [beq_eq_false_iff_ne]; omega
 have e8 : ((c.toNat : Int) == 8) = false := by rw [beq_eq_false_iff_ne]; omega
 have e12 : ((c.toNat : Int) == 12) = false := by rw [beq_eq_false_iff_ne]; omega
 have e10 : ((c.toNat : Int) == 10) = false := by rw [beq_eq_false_iff_ne]; omega
 have e13 : ((c.toNat : Int) == 13) = false := by rw [beq_eq_false_iff_ne]; omega
 have e9 : ((c.toNat : Int) == 9) = false := by rw [beq_eq_false_iff_ne]; omega
 have hs : shB c = 0 := by simp [shB, h34, h92, h8, h12, h10, h13, h9]
 rw [hs]
 clear hs h34 h92 h8 h12 h10 h13 h9
 go_enter Tryz.func148, Tryz.ntmps148
 go_wp2_with fail
 go_ret
 exact ⟨rfl, rfl⟩


attribute [local go_sem] str_cat
theorem Own.one (E : TypeId) (w : World) (c : UInt8) (x : Value) (hx : x = bv c) : Own E (w.alloc (.cells #[x] E)) w.heap.size (.slice (some ⟨w.heap.size, 0, none⟩) 1 1) [c] := by
 subst hx
 refine ⟨by simp, .inr ⟨w.heap.size, 1, #[bv c], rfl, Nat.le_refl _, heap_alloc_new w _, by simp, by decide, by simp, by simp⟩⟩

theorem refQuote_any (t : List UInt8) (w : World) (hl : t.length ≤ 1099511627776) :
 Calls Tryz.prog 135 #[str t] w fun e w' => e = quoteE t ∧ Below w.heap.size w w' := by
 cases hv : validB t
 · have hq : quoteE t = .returned (.tuple #[str [], .int .i64 4]) := by rw [quoteE, hv]; rfl
   have HV := Lib.hid hv
   clear hv
   rw [hq]
   clear hq
   go_enter Tryz.func135, Tryz.ntmps135
   go_wp2_with fail
   refine (refValid_any t _ (by omega)).mono ?_
   rintro e w' ⟨rfl, rfl⟩
   rw [HV.out]
   go_wp2_with fail
   go_ret2
   exact ⟨rfl, Below.refl _ _⟩
 · have hq : quoteE t = .returned (.tuple #[str (34 :: qbL t ++ [34]), .int .i64 0]) := by rw [quoteE, hv]; rfl
   have HV := Lib.hid hv
   clear hv
   rw [hq]
   clear hq
   go_enter Tryz.func135, Tryz.ntmps135
   go_wp2_with fail
   refine (refValid_any t _ (by omega)).mono ?_
   rintro e w' ⟨rfl, rfl⟩
   rw [HV.out]
   go_wp2_with fail
   have hown1 := Own.one 5 w' 34 (.int .u8 34) rfl
   have hb1 := below_alloc w' (.cells #[.int .u8 34] 5)
   go_loopw [4, 5] (fun v i wr => ∃ k : Nat, k ≤ t.length ∧ i = .int .i64 k ∧ Own 5 wr w'.heap.size v (34 :: qbL (t.take k)) ∧ Below w'.heap.size w' wr)
    (fun _ i _ => t.length - (intOf i).toNat)
   case atStart => exact ⟨0, Nat.zero_le _, rfl, hown1, hb1⟩
   case round =>
    obtain ⟨k, hk, rfl, hown, hb⟩ := hrel
    by_cases hlt : k < t.length
    · have hlt' : (k : Int) < (t.length : Int) := by omega
      obtain ⟨c, hce⟩ : ∃ c, c = t[k] := ⟨_, rfl⟩
      have hgd : (ByteArray.mk t.toArray)[k]'(by simpa [ByteArray.size] using hlt) = c := hce.symm
      have hts : t.take (k + 1) = t.take k ++ [c] := by rw [hce]; exact List.take_succ_eq_append_getElem hlt
      have HTS := Lib.hid hts
      have hL := qbL_len (t.take k)
      have hLt : (t.take k).length = k := by simp; omega
      rw [hLt] at hL
      have hc255 := c.toNat_lt
      clear hts hce hLt
      by_cases hs : shB c = 0
      · have n1 : (((shB c).toNat : Int) != 0) = false := by rw [hs]; rfl
        by_cases hsm : c.toNat < 32
        · have n2 : (c.toNat : Int) < 32 := by omega
          have hqb : qb c = [92, 117, 48, 48] ++ hexL [c] := by rw [qb, if_neg (by simp [hs]), if_pos hsm]; rfl
          have hhl := hexL_length [c]
          have HQ := Lib.hid hqb
          have HH := Lib.hid hhl
          have hcat := str_cat [92, 117, 48, 48] (hexL [c])
          have q5 : ¬ (9223372036854775807 < 4 + (hexL [c]).length) := by rw [hhl]; simp
          obtain ⟨x, hx⟩ : ∃ x, x = hexL [c] := ⟨_, rfl⟩
          have HX := Lib.hid hx
          rw [← hx] at hcat q5
          clear hqb hs hsm hhl hx
          go_wp2_with fail
          refine (refShort_any c _).mono ?_
          rintro e w2 ⟨rfl, rfl⟩
          go_wp2_with fail
          have hRd := Rd.one 5 w2 c _ rfl
          have hbA := below_alloc w2 (.cells #[.int .u8 (c.toNat : Int)] 5)
          have hownA := hown.alloc (.cells #[.int .u8 (c.toNat : Int)] 5)
          refine (refHex_any _ [c] _ hRd (by simp)).mono ?_
          rintro e w3 ⟨rfl, hb3⟩
          have hown3 := hownA.below hb3 (Nat.le_refl _)
          have hB3 := (hb.trans (hbA.mono hb.size)).trans (hb3.mono (Nat.le_trans hb.size hbA.size))
          rw [← HX.out]
          go_wp2_with (at_builtin; refine hold ?_)
          intro _
          refine bt.appendStr Tryz.underlying9 rfl _ _ rfl w'.heap.size _ _ ([92, 117, 48, 48] ++ x) hown3 rfl rfl (by have := HH.out; rw [HX.out]; simp at this ⊢; omega) hB3.size ?_
          intro v4 w4 hown4 hg4
          have hB4 := hB3.grown hg4 hB3.size (fun b e => (hown3.base b e).1)
          go_wp2_with fail
          go_roundw
          case rel => exact ⟨k + 1, by omega, by go_num, by rw [HTS.out, qbL_snoc, HQ.out, ← HX.out]; exact hown4, hB4⟩
          case measure => simp [intOf]; omega
        have n2 : ¬ (c.toNat : Int) < 32 := by omega
        have hqb : qb c = [c] := by rw [qb, if_neg (by simp [hs]), if_neg hsm]
        have HQ := Lib.hid hqb
        clear hqb hs hsm
        go_wp2_with fail
        refine (refShort_any c _).mono ?_
        rintro e w2 ⟨rfl, rfl⟩
        go_wp2_with (at_builtin; refine hold ?_)
        intro _
        refine bt.append1 rfl _ _ rfl w'.heap.size _ _ c _ rfl hown rfl rfl (by simp; omega) hb.size ?_
        intro v4 w4 hown4 hg4
        have hB4 := hb.grown hg4 hb.size (fun b e => (hown.base b e).1)
        go_wp2_with fail
        go_roundw
        case rel => exact ⟨k + 1, by omega, by go_num, by rw [HTS.out, qbL_snoc, HQ.out]; exact hown4, hB4⟩
        case measure => simp [intOf]; omega
      have n1 : (((shB c).toNat : Int) != 0) = true := by
       rw [bne_iff_ne]
       intro h
       exact hs (UInt8.toNat_inj.1 (by simpa using h))
      have hqb : qb c = [92, shB c] := by rw [qb, if_pos hs]
      have HQ := Lib.hid hqb
      clear hqb hs
      go_wp2_with fail
      refine (refShort_any c _).mono ?_
      rintro e w2 ⟨rfl, rfl⟩
      go_wp2_with fail
      refine (refShort_any c _).mono ?_
      rintro e w3 ⟨rfl, rfl⟩
      go_wp2_with (at_builtin; refine hold ?_)
      intro _
      refine bt.appendS rfl _ _ rfl w'.heap.size _ _ _ [92, shB c] (hown.alloc _) (Rd.two _ _ _ _ _ _ _ (by rfl) (by rfl) rfl) rfl rfl (by simp; omega) (by have := hb.size; simp; omega) ?_
      intro v4 w4 hown4 hg4
      have hg4' := grown_trans (World.grownBy_alloc _ _ _) hg4
      have hB4 := hb.grown hg4' hb.size (fun b e => (hown.base b e).1)
      go_wp2_with fail
      go_roundw
      case rel => exact ⟨k + 1, by omega, by go_num, by rw [HTS.out, qbL_snoc, HQ.out]; exact hown4, hB4⟩
      case measure => simp [intOf]; omega
    · have hlt' : ¬ (k : Int) < (t.length : Int) := by omega
      obtain rfl : k = t.length := by omega
      rw [List.take_length] at hown
      have hL := qbL_len t
      go_wp2_with (at_builtin; refine hold ?_)
      intro _
      refine bt.append1 rfl _ _ rfl w'.heap.size _ _ 34 _ rfl hown rfl rfl (by simp; omega) hb.size ?_
      intro v4 w4 hown4 hg4
      have hb4 : Below w'.heap.size w' w4 := hb.grown hg4 hb.size (fun b e => (hown.base b e).1)
      have hconv := bt.toString (w := w4) (S := 9) Tryz.underlying9 hown4.rd
      go_wp2_with fail
      go_ret2
      exact ⟨rfl, hb4⟩

end Go.Proofs.YtegblhmcfemfgaaGreatDoor
