import Derived.Test.YtegblhmcfemfgaaGreatDoorSignAt
import Derived.Test.YtegblhmcfemfgaaGreatDoorKit
import Derived.Deep.RegionHeld3
import Derived.Deep.QuietTactic
import Derived.BigQuiet
namespace Go.Proofs.YtegblhmcfemfgaaGreatDoor
open Go.RowKit
theorem tailR_some : ∀ (k : Nat) (t : List UInt8) (acc a : Nat), tailR k t acc = some a → k ≤ t.length
 | 0, _, _, _, _ => Nat.zero_le _
 | k + 1, [], _, _, h => by simp [tailR] at h
 | k + 1, b :: t, acc, a, h => by
   rw [tailR] at h
   split at h
   · have := tailR_some k t _ _ h; simp; omega
   cases h
theorem tailE_le (k least : Nat) (t : List UInt8) (acc : Nat) : (tailE k least (tailR k t acc)).2 ≤ t.length + 1 := by
 unfold tailE
 split
 · simp
 next a h =>
 have := tailR_some k t acc a h
 split
 · simp
 simp; omega
theorem sgn_le : ∀ t : List UInt8, (sgn t).2 ≤ t.length
 | [] => by simp [sgn]
 | c :: t => by
   rw [sgn]
   split
   · simp
   split
   · exact tailE_le ..
   split
   · exact tailE_le ..
   split
   · exact tailE_le ..
   · simp
def cntF : Nat → List UInt8 → Option Nat
 | _, [] => some 0
 | 0, _ :: _ => none
 | f + 1, c :: t => if (sgn (c :: t)).2 = 0 then none else (cntF f ((c :: t).drop (sgn (c :: t)).2)).map (· + 1)
def cnt (t : List UInt8) : Option Nat := cntF t.length t
theorem cntF_more : ∀ (f : Nat) (t : List UInt8), t.length ≤ f → ∀ g, t.length ≤ g → cntF f t = cntF g t
 | _, [], _, 0, _ => by simp [cntF]
 | 0, [], _, g + 1, _ => by simp [cntF]
 | f + 1, [], _, g + 1, _ => by simp [cntF]
 | 0, _ :: _, h, _, _ => by simp at h
 | _ + 1, _ :: _, _, 0, h => by simp at h
 | f + 1, c :: t, h, g + 1, h' => by
   simp only [cntF]
   split
   · rfl
   next hz =>
   rw [cntF_more f _ (by simp at h ⊢; omega) g (by simp at h' ⊢; omega)]
theorem cnt_nil : cnt [] = some 0 := rfl
theorem cnt_step (t : List UInt8) (h : t ≠ []) : cnt t = if (sgn t).2 = 0 then none else (cnt (t.drop (sgn t).2)).map (· + 1) := by
 cases t with
 | nil => exact absurd rfl h
 | cons c t =>
  show cntF (t.length + 1) (c :: t) = _
  rw [cntF]
  split
  · rfl
  next hz => rw [cnt, cntF_more t.length _ (by simp; omega) _ (Nat.le_refl _)]
def cntI : Option Nat → Int
 | none => -1
 | some n => n
def cntE (t : List UInt8) : Ending := .returned (.int .i64 (cntI (cnt t)))
set_option maxHeartbeats 3200000 in
theorem count_any (t : List UInt8) (w : World) (hl : t.length ≤ 140737488355328) :
 Calls Tryz.prog 150 #[str t] w fun e w' => e = cntE t ∧ w' = w := by
 go_enter Tryz.func150, Tryz.ntmps150
 go_wp2_with fail
 go_loop [3, 4] (fun n i => ∃ k p : Nat, p ≤ t.length ∧ k ≤ p ∧ i = .int .i64 (p : Int) ∧ n = .int .i64 (k : Int) ∧ cnt t = (cnt (t.drop p)).map (· + k))
  (fun _ i => t.length - (intOf i).toNat)
 case atStart => exact ⟨0, 0, Nat.zero_le _, Nat.le_refl _, rfl, rfl, by simp⟩
 case round =>
  obtain ⟨k, p, hp, hk, rfl, rfl, hr⟩ := hrel
  by_cases hlt : p < t.length
  · have n1 : (p : Int) < (t.length : Int) := by omega
    have hst := cnt_step (t.drop p) (by intro h; have := congrArg List.length h; simp at this; omega)
    have hle := sgn_le (t.drop p)
    rw [List.length_drop] at hle
    rw [hst] at hr
    clear hst
    have HR := Lib.hid hr
    clear hr
    obtain ⟨c, z, hcz⟩ : ∃ c z, sgn (t.drop p) = (c, z) := ⟨_, _, rfl⟩
    rw [hcz] at hle
    have HCZ := Lib.hid hcz
    clear hcz
    simp only at hle
    go_wp2_with fail
    refine (signAt_any t p _ hlt hl).mono ?_
    rintro e w' ⟨rfl, rfl⟩
    rw [HCZ.out, sgnE]
    by_cases hz : z = 0
    · have n2 : ((z : Int) == 0) = true := by rw [beq_iff_eq]; omega
      have hfin : cnt t = none := by rw [HR.out, HCZ.out, if_pos hz]; rfl
      have HF := Lib.hid hfin
      clear hfin hz
      go_wp2_with fail
      go_ret
      exact ⟨by rw [cntE, HF.out]; rfl, rfl⟩
    have n2 : ((z : Int) == 0) = false := by rw [beq_eq_false_iff_ne]; omega
    have hfin : cnt t = (cnt (t.drop (p + z))).map (· + (k + 1)) := by
     rw [HR.out, HCZ.out, if_neg hz, List.drop_drop, Option.map_map]
     congr 1
     funext x
     simp; omega
    have HF := Lib.hid hfin
    clear hfin
    go_wp2_with fail
    go_round
    case rel => exact ⟨k + 1, p + z, by omega, by omega, by go_num, by go_num, HF.out⟩
    case measure => simp [intOf]; omega
  · obtain rfl : p = t.length := by omega
    have n1 : ¬ (t.length : Int) < (t.length : Int) := by omega
    have hfin : cnt t = some k := by rw [hr, List.drop_length, cnt_nil]; simp
    have HF := Lib.hid hfin
    clear hfin hr
    go_wp2_with fail
    go_ret
    exact ⟨by rw [cntE, HF.out]; rfl, rfl⟩
def validB (t : List UInt8) : Bool := (cnt t).isSome
theorem valid_any (t : List UInt8) (w : World) (hl : t.length ≤ 140737488355328) :
 Calls Tryz.prog 138 #[str t] w fun e w' => e = .returned (.bool (validB t)) ∧ w' = w := by
 go_enter Tryz.func138, Tryz.ntmps138
 go_wp2_with fail
 refine (count_any t _ hl).mono ?_
 rintro e w' ⟨rfl, rfl⟩
 rw [cntE]
 cases h : cnt t with
 | none =>
  have hv : validB t = false := by rw [validB, h]; rfl
  have HV := Lib.hid hv
  clear hv h
  simp only [cntI]
  go_wp2_with fail
  go_ret
  exact ⟨by rw [HV.out]; rfl, rfl⟩
 | some n =>
  have hv : validB t = true := by rw [validB, h]; rfl
  have HV := Lib.hid hv
  clear hv h
  have : (0 : Int) ≤ (n : Int) := by omega
  simp only [cntI]
  go_wp2_with fail
  go_ret
  exact ⟨by rw [HV.out]; rfl, rfl⟩
theorem Rd.two (E : TypeId) (w : World) (c d : UInt8) (x y : Value) (b : Nat) (hx : x = bv c) (hy : y = bv d) (hb : b = w.heap.size) : Rd (w.alloc (.cells #[x, y] E)) (.slice (some ⟨b, 0, none⟩) 2 2) [c, d] := by
 subst hb hx hy
 refine ⟨_, 2, rfl, by simp, by decide, (fun h => by cases h), fun _ => ⟨w.heap.size, 0, rfl, fun i hi => ?_⟩⟩
 simp at hi
 rcases (show i = 0 ∨ i = 1 by omega) with rfl | rfl <;> simp
theorem Rd.six (E : TypeId) (w : World) (c1 c2 c3 c4 c5 c6 : UInt8) (x1 x2 x3 x4 x5 x6 : Value) (b : Nat) (h1 : x1 = bv c1) (h2 : x2 = bv c2) (h3 : x3 = bv c3) (h4 : x4 = bv c4) (h5 : x5 = bv c5) (h6 : x6 = bv c6) (hb : b = w.heap.size) :
 Rd (w.alloc (.cells #[x1, x2, x3, x4, x5, x6] E)) (.slice (some ⟨b, 0, none⟩) 6 6) [c1, c2, c3, c4, c5, c6] := by
 subst hb h1 h2 h3 h4 h5 h6
 refine ⟨_, 6, rfl, by simp, by decide, (fun h => by cases h), fun _ => ⟨w.heap.size, 0, rfl, fun i hi => ?_⟩⟩
 simp at hi
 rcases (show i = 0 ∨ i = 1 ∨ i = 2 ∨ i = 3 ∨ i = 4 ∨ i = 5 by omega) with rfl | rfl | rfl | rfl | rfl | rfl <;> simp
def hexSigns : List UInt8 := [48, 49, 50, 51, 52, 53, 54, 55, 56, 57, 97, 98, 99, 100, 101, 102]
def hexS (n : Nat) : UInt8 := hexSigns.getD n 0
def hexL (l : List UInt8) : List UInt8 := l.flatMap fun c => [hexS (c.toNat / 16), hexS (c.toNat % 16)]
theorem hexL_snoc (l : List UInt8) (c : UInt8) : hexL (l ++ [c]) = hexL l ++ [hexS (c.toNat / 16), hexS (c.toNat % 16)] := by simp [hexL]
theorem hexL_length (l : List UInt8) : (hexL l).length = 2 * l.length := by
 induction l with
 | nil => rfl
 | cons c t ih => simp only [hexL, List.flatMap_cons, List.length_append, List.length_cons] at ih ⊢; simp only [List.length_nil]; omega
theorem and15 (c : UInt8) : bits .and .u8 (c.toNat : Int) 15 = ((c.toNat % 16 : Nat) : Int) := by
 rw [show (15 : Int) = ((15 : Nat) : Int) from rfl, u8_and_nat _ _ (by have := c.toNat_lt; omega) (by omega), nat_mask4]
theorem hex_all : ∀ m : Fin 16, ((ByteArray.mk #[48, 49, 50, 51, 52, 53, 54, 55, 56, 57, 97, 98, 99, 100, 101, 102])[m.val]'(by have := m.isLt; exact this)).toNat = (hexS m.val).toNat := by decide
theorem hex_at (n : Nat) (h : n < 16) (i : Nat) (hi : i < (ByteArray.mk #[48, 49, 50, 51, 52, 53, 54, 55, 56, 57, 97, 98, 99, 100, 101, 102]).size) (e : i = n) :
 Value.int .u8 (((ByteArray.mk #[48, 49, 50, 51, 52, 53, 54, 55, 56, 57, 97, 98, 99, 100, 101, 102])[i]'hi).toNat : Int) = bv (hexS n) := by
 subst e
 unfold bv
 rw [← hex_all ⟨i, h⟩]
def shB (c : UInt8) : UInt8 := if c.toNat = 34 then 34 else if c.toNat = 92 then 92 else if c.toNat = 8 then 98 else if c.toNat = 12 then 102 else if c.toNat = 10 then 110 else if c.toNat = 13 then 114 else if c.toNat = 9 then 116 else 0
def qb (c : UInt8) : List UInt8 := if shB c ≠ 0 then [92, shB c] else if c.toNat < 32 then [92, 117, 48, 48, hexS (c.toNat / 16), hexS (c.toNat % 16)] else [c]
def qbL (l : List UInt8) : List UInt8 := l.flatMap qb
theorem qbL_snoc (l : List UInt8) (c : UInt8) : qbL (l ++ [c]) = qbL l ++ qb c := by simp [qbL]
theorem qb_len (c : UInt8) : (qb c).length ≤ 6 := by
 unfold qb
 split
 · simp
 split
 · simp
 simp
theorem qbL_len (l : List UInt8) : (qbL l).length ≤ 6 * l.length := by
 induction l with
 | nil => simp [qbL]
 | cons c t ih =>
  have := qb_len c
  simp only [qbL, List.flatMap_cons, List.length_append, List.length_cons] at ih ⊢
  omega
theorem shortFor_any (c : UInt8) (w : World) : Calls Tryz.prog 155 #[.int .u8 (c.toNat : Int)] w fun e w' => e = .returned (.int .u8 ((shB c).toNat : Int)) ∧ w' = w := by
 by_cases h34 : c.toNat = 34
 · rw [show shB c = 34 by simp [shB, h34], show (c.toNat : Int) = 34 by omega]
   go_enter Tryz.func155, Tryz.ntmps155
   go_wp2
   go_ret
   exact ⟨rfl, rfl⟩
 by_cases h92 : c.toNat = 92
 · rw [show shB c = 92 by simp [shB, h92], show (c.toNat : Int) = 92 by omega]
   go_enter Tryz.func155, Tryz.ntmps155
   go_wp2
   go_ret
   exact ⟨rfl, rfl⟩
 by_cases h8 : c.toNat = 8
 · rw [show shB c = 98 by simp [shB, h8], show (c.toNat : Int) = 8 by omega]
   go_enter Tryz.func155, Tryz.ntmps155
   go_wp2
   go_ret
   exact ⟨rfl, rfl⟩
 by_cases h12 : c.toNat = 12
 · rw [show shB c = 102 by simp [shB, h12], show (c.toNat : Int) = 12 by omega]
   go_enter Tryz.func155, Tryz.ntmps155
   go_wp2
   go_ret
   exact ⟨rfl, rfl⟩
 by_cases h10 : c.toNat = 10
 · rw [show shB c = 110 by simp [shB, h10], show (c.toNat : Int) = 10 by omega]
   go_enter Tryz.func155, Tryz.ntmps155
   go_wp2
   go_ret
   exact ⟨rfl, rfl⟩
 by_cases h13 : c.toNat = 13
 · rw [show shB c = 114 by simp [shB, h13], show (c.toNat : Int) = 13 by omega]
   go_enter Tryz.func155, Tryz.ntmps155
   go_wp2
   go_ret
   exact ⟨rfl, rfl⟩
 by_cases h9 : c.toNat = 9
 · rw [show shB c = 116 by simp [shB, h9], show (c.toNat : Int) = 9 by omega]
   go_enter Tryz.func155, Tryz.ntmps155
   go_wp2
   go_ret
   exact ⟨rfl, rfl⟩
 have e34 : ((c.toNat : Int) == 34) = false := by rw [beq_eq_false_iff_ne]; omega
 have e92 : ((c.toNat : Int) == 92) = false := by rw [beq_eq_false_iff_ne]; omega
 have e8 : ((c.toNat : Int) == 8) = false := by rw [beq_eq_false_iff_ne]; omega
 have e12 : ((c.toNat : Int) == 12) = false := by rw [beq_eq_false_iff_ne]; omega
 have e10 : ((c.toNat : Int) == 10) = false := by rw [beq_eq_false_iff_ne]; omega
 have e13 : ((c.toNat : Int) == 13) = false := by rw [beq_eq_false_iff_ne]; omega
 have e9 : ((c.toNat : Int) == 9) = false := by rw [beq_eq_false_iff_ne]; omega
 have hs : shB c = 0 := by simp [shB, h34, h92, h8, h12, h10, h13, h9]
 rw [hs]
 clear hs h34 h92 h8 h12 h10 h13 h9
 go_enter Tryz.func155, Tryz.ntmps155
 go_wp2_with fail
 go_ret
 exact ⟨rfl, rfl⟩
set_option maxHeartbeats 800000 in
theorem appendQ_any (v : Value) (l : List UInt8) (c : UInt8) (w : World) (base : Nat) (hown : Own 5 w base v l) (hbase : base ≤ w.heap.size) (hl : l.length ≤ 70368744177664) :
 Calls Tryz.prog 140 #[v, .int .u8 (c.toNat : Int)] w fun e w' => ∃ v', e = .returned v' ∧ Own 5 w' base v' (l ++ qb c) ∧ Below base w w' := by
 by_cases hs : shB c = 0
 · have n1 : (((shB c).toNat : Int) != 0) = false := by rw [hs]; rfl
   by_cases hsm : c.toNat < 32
   · have n2 : (c.toNat : Int) < 32 := by omega
     have hq : qb c = [92, 117, 48, 48, hexS (c.toNat / 16), hexS (c.toNat % 16)] := by rw [qb, if_neg (by simp [hs]), if_pos hsm]
     have HQ := Lib.hid hq
     have ha := and15 c
     clear hq hs hsm
     go_enter Tryz.func140, Tryz.ntmps140
     go_wp2_with fail
     refine (shortFor_any c _).mono ?_
     rintro e w' ⟨rfl, rfl⟩
     go_wp2_with fail
     have hc255 := c.toNat_lt
     have q1 : (0 : Int) ≤ (c.toNat : Int) / 16 := by omega
     have q2 : (c.toNat : Int) / 16 < 16 := by omega
     have q3 : (0 : Int) ≤ (c.toNat : Int) % 16 := by omega
     have q4 : (c.toNat : Int) % 16 < 16 := by omega
     go_region_held3 (fun _ => True) (trivial)
      ((first
        | (refine bt.stepAppend (by rfl) _ _ (by rfl) base v l [92, 117, 48, 48, hexS (c.toNat / 16), hexS (c.toNat % 16)] (by rfl) ?_ ?_ ?_ ?_ ?_
           · exact (hown.alloc _)
           · exact Rd.six _ _ _ _ _ _ _ _ _ _ _ _ _ _ _ (by rfl) (by rfl) (by rfl) (by rfl) (hex_at _ (by omega) _ _ (by omega)) (hex_at _ (by omega) _ _ (by omega)) (by simp)
           · simp; omega
           · simp; omega
           intro v10 w10 ho10 hg10)
        | fail))
     all_goals
      have hbX : Below base w' w10 := by
       refine Below.grown ?_ hg10 (by simp; omega) (fun b e => (hown.base b e).1)
       exact (((Below.refl _ _).drew).alloc (by simp; omega) _)
      go_wp2_with fail
      go_ret
      exact ⟨v10, rfl, by rw [HQ.out]; exact ho10, hbX⟩
   have n2 : ¬ (c.toNat : Int) < 32 := by omega
   have hq : qb c = [c] := by rw [qb, if_neg (by simp [hs]), if_neg hsm]
   have HQ := Lib.hid hq
   clear hq hs hsm
   go_enter Tryz.func140, Tryz.ntmps140
   go_wp2_with fail
   refine (shortFor_any c _).mono ?_
   rintro e w' ⟨rfl, rfl⟩
   go_wp2_with (at_builtin; refine hold ?_)
   intro _
   refine bt.append1 rfl _ _ rfl base v l c _ rfl hown rfl rfl (by omega) hbase ?_
   intro v' w2 ho2 hg2
   go_wp2_with fail
   go_ret
   exact ⟨v', rfl, by rw [HQ.out]; exact ho2, hown.grows hg2 (Nat.le_refl _) hbase⟩
 · have n1 : (((shB c).toNat : Int) != 0) = true := by
    rw [bne_iff_ne]
    intro h
    exact hs (UInt8.toNat_inj.1 (by simpa using h))
   have hq : qb c = [92, shB c] := by rw [qb, if_pos hs]
   have HQ := Lib.hid hq
   clear hq hs
   go_enter Tryz.func140, Tryz.ntmps140
   go_wp2_with fail
   refine (shortFor_any c _).mono ?_
   rintro e w' ⟨rfl, rfl⟩
   go_wp2_with (at_builtin; refine hold ?_)
   intro _
   refine bt.appendS rfl _ _ rfl base v _ l [92, shB c] (hown.alloc _) (Rd.two _ _ _ _ _ _ _ (by rfl) (by rfl) rfl) rfl rfl (by simp; omega) (by simp; omega) ?_
   intro v' w2 ho2 hg2
   go_wp2_with fail
   go_ret
   exact ⟨v', rfl, by rw [HQ.out]; exact ho2, (Below.refl _ _).grown (grown_trans (World.grownBy_alloc _ _ _) hg2) hbase (fun b e => (hown.base b e).1)⟩
def quoteE (t : List UInt8) : Ending := .returned (.tuple #[if validB t then str (34 :: qbL t ++ [34]) else str [], if validB t then .int .i64 0 else .int .i64 4])
set_option maxHeartbeats 800000 in
theorem quote_any (t : List UInt8) (w : World) (hl : t.length ≤ 1099511627776) :
 Calls Tryz.prog 120 #[str t] w fun e w' => e = quoteE t ∧ Below w.heap.size w w' := by
 cases hv : validB t
 · have hq : quoteE t = .returned (.tuple #[str [], .int .i64 4]) := by rw [quoteE, hv]; rfl
   have HV := Lib.hid hv
   clear hv
   rw [hq]
   clear hq
   go_enter Tryz.func120, Tryz.ntmps120
   go_wp2_with fail
   refine (valid_any t _ (by omega)).mono ?_
   rintro e w' ⟨rfl, rfl⟩
   rw [HV.out]
   go_wp2_with fail
   go_ret2
   exact ⟨rfl, Below.refl _ _⟩
 have hq : quoteE t = .returned (.tuple #[str (34 :: qbL t ++ [34]), .int .i64 0]) := by rw [quoteE, hv]; rfl
 have HV := Lib.hid hv
 clear hv
 rw [hq]
 clear hq
 go_enter Tryz.func120, Tryz.ntmps120
 go_wp2_with fail
 refine (valid_any t _ (by omega)).mono ?_
 rintro e w' ⟨rfl, rfl⟩
 rw [HV.out]
 go_wp2_with (at_make; refine hold ?_)
 intro _
 refine bt.make0 rfl _ _ rfl (t.length + 2) _ (by omega) rfl rfl (by omega) ?_
 intro w1 hown1 hg1
 have hb1 : Below w'.heap.size w' w1 := (Below.refl _ _).grown hg1 (Nat.le_refl _) (by simp)
 go_wp2_with (at_builtin; refine hold ?_)
 intro _
 refine bt.append1 rfl _ _ rfl w'.heap.size _ [] 34 _ rfl hown1 rfl rfl (by simp) hb1.size ?_
 intro v2 w2 hown2 hg2
 have hb2 : Below w'.heap.size w' w2 := hb1.grown hg2 hb1.size (fun b e => (hown1.base b e).1)
 go_wp2_with fail
 go_loopw [4, 18] (fun v i wr => ∃ k : Nat, k ≤ t.length ∧ i = .int .i64 k ∧ Own 5 wr w'.heap.size v (34 :: qbL (t.take k)) ∧ Below w'.heap.size w' wr)
  (fun _ i _ => t.length - (intOf i).toNat)
 case atStart => exact ⟨0, Nat.zero_le _, rfl, hown2, hb2⟩
 case round =>
  obtain ⟨k, hk, rfl, hown, hb⟩ := hrel
  by_cases hlt : k < t.length
  · have hlt' : (k : Int) < (t.length : Int) := by omega
    obtain ⟨c, hce⟩ : ∃ c, c = t[k] := ⟨_, rfl⟩
    have hgd : (ByteArray.mk t.toArray)[k]'(by simpa [ByteArray.size] using hlt) = c := hce.symm
    have hts : t.take (k + 1) = t.take k ++ [c] := by rw [hce]; exact List.take_succ_eq_append_getElem hlt
    have HTS := Lib.hid hts
    have hL := qbL_len (t.take k)
    have hLt : (t.take k).length = k := by simp; omega
    rw [hLt] at hL
    clear hts hce hLt
    go_wp2_with fail
    refine (appendQ_any _ _ c _ _ hown hb.size (by simp; omega)).mono ?_
    rintro e w3 ⟨v3, rfl, hown3, hb3⟩
    go_wp2_with fail
    go_roundw
    case rel => exact ⟨k + 1, by omega, by go_num, by rw [HTS.out, qbL_snoc]; exact hown3, hb.trans hb3⟩
    case measure => simp [intOf]; omega
  have hlt' : ¬ (k : Int) < (t.length : Int) := by omega
  obtain rfl : k = t.length := by omega
  rw [List.take_length] at hown
  have hL := qbL_len t
  go_wp2_with (at_builtin; refine hold ?_)
  intro _
  refine bt.append1 rfl _ _ rfl w'.heap.size _ _ 34 _ rfl hown rfl rfl (by simp; omega) hb.size ?_
  intro v4 w4 hown4 hg4
  have hb4 : Below w'.heap.size w' w4 := hb.grown hg4 hb.size (fun b e => (hown.base b e).1)
  have hconv := bt.toString (w := w4) (S := 9) Tryz.underlying9 hown4.rd
  go_wp2_with fail
  go_ret2
  exact ⟨rfl, hb4⟩
end Go.Proofs.YtegblhmcfemfgaaGreatDoor
