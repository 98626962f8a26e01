import Derived.Test.YtegblhmcfemfgaaGreatDoorQuote
import Derived.Lib.AppendStr
import Derived.Deep.RegionLaw
namespace Go.Proofs.YtegblhmcfemfgaaGreatDoor
open Go.RowKit
structure RS (w : World) (b : Nat) (t : List UInt8) (p : Nat) (o : List UInt8) : Prop where
 out : ∃ v T, w.heap[b]? = some (.cells #[str t, .int .i64 (p : Int), v] T (0, 0)) ∧ Own 5 w (b + 1) v o
theorem RS.lt {w : World} {b p : Nat} {t o : List UInt8} (h : RS w b t p o) : b < w.heap.size := by
 obtain ⟨v, T, h, _⟩ := h
 exact (Array.getElem?_eq_some_iff.1 h).1
theorem RS.c0 {w : World} {b p : Nat} {t o : List UInt8} (h : RS w b t p o) : w.cell? ⟨b, 0, none⟩ = some (str t) := by
 obtain ⟨v, T, h, _⟩ := h
 simp [World.cell?, h]
theorem RS.c1 {w : World} {b p : Nat} {t o : List UInt8} (h : RS w b t p o) : w.cell? ⟨b, 1, none⟩ = some (.int .i64 (p : Int)) := by
 obtain ⟨v, T, h, _⟩ := h
 simp [World.cell?, h]
theorem RS.c2 {w : World} {b p : Nat} {t o : List UInt8} (h : RS w b t p o) : ∃ v, w.cell? ⟨b, 2, none⟩ = some v ∧ Own 5 w (b + 1) v o := by
 obtain ⟨v, T, h, ho⟩ := h
 exact ⟨v, by simp [World.cell?, h], ho⟩
theorem RS.fr {w : World} {b p : Nat} {t o : List UInt8} (h : RS w b t p o) (j : Nat) : w.frozen? ⟨b, j, none⟩ = false := by
 obtain ⟨v, T, h, _⟩ := h
 exact frozen_of_row w b j _ T h
theorem RS.drewN {w : World} {b p : Nat} {t o : List UInt8} (h : RS w b t p o) (n : Nat) : RS (w.drewN n) b t p o := by
 obtain ⟨v, T, h, ho⟩ := h
 exact ⟨v, T, by simpa using h, ho⟩
theorem three_setCell {w : World} {b : Nat} {x y z u : Value} {t : TypeId} (h : w.heap[b]? = some (.cells #[x, y, z] t (0, 0))) :
 (w.setCell ⟨b, 1, none⟩ u).heap[b]? = some (.cells #[x, u, z] t (0, 0)) ∧ (w.setCell ⟨b, 2, none⟩ u).heap[b]? = some (.cells #[x, y, u] t (0, 0)) := by
 have hlt := (Array.getElem?_eq_some_iff.1 h).1
 have h' : w.heap[b] = .cells #[x, y, z] t (0, 0) := by simpa [Array.getElem?_eq_getElem hlt] using h
 constructor
 · show (w.heap.modify b _)[b]? = _
   rw [Array.getElem?_eq_getElem (by simpa using hlt), Array.getElem_modify_self, h']
   rfl
 show (w.heap.modify b _)[b]? = _
 rw [Array.getElem?_eq_getElem (by simpa using hlt), Array.getElem_modify_self, h']
 rfl
theorem RS.setAt {w : World} {b p : Nat} {t o : List UInt8} (h : RS w b t p o) (q : Nat) (n : Int) (hn : n = (q : Int)) : RS (w.setCell ⟨b, 1, none⟩ (.int .i64 n)) b t q o := by
 obtain ⟨v, T, h, ho⟩ := h
 subst hn
 exact ⟨v, T, (three_setCell h).1, ownsRow_setCell_below ho (Nat.lt_succ_self b) _⟩
theorem RS.setOut {w w' : World} {b p : Nat} {t o o' : List UInt8} {v v' : Value} (h : RS w b t p o) (hc : w.cell? ⟨b, 2, none⟩ = some v) (hg : w.grownBy w' v.ownBlock) (ho' : Own 5 w' (b + 1) v' o') : RS (w'.setCell ⟨b, 2, none⟩ v') b t p o' := by
 obtain ⟨v0, T, h, ho⟩ := h
 have e : v0 = v := by simpa [World.cell?, h] using hc
 subst e
 have hb : w'.heap[b]? = some (.cells #[str t, .int .i64 (p : Int), v0] T (0, 0)) := by
  rw [hg.block b (Array.getElem?_eq_some_iff.1 h).1 (fun e => by have := ho.base b e.symm; omega)]
  exact h
 exact ⟨v', T, (three_setCell hb).2, ownsRow_setCell_below ho' (Nat.lt_succ_self b) _⟩
def OnlyT (b : Nat) (w w' : World) : Prop := w.heap.size ≤ w'.heap.size ∧ ∀ k, k < w.heap.size → k ≠ b → w'.heap[k]? = w.heap[k]?
theorem OnlyT.drewN (b : Nat) (w : World) (n : Nat) : OnlyT b w (w.drewN n) := ⟨by simp, fun _ _ _ => by simp⟩
theorem OnlyT.setCell {b : Nat} {w w' : World} (h : OnlyT b w w') (j : Nat) (u : Value) : OnlyT b w (w'.setCell ⟨b, j, none⟩ u) :=
 ⟨by simpa [World.setCell] using h.1, fun k hk hne => by rw [Below.heap_setCell _ _ _ _ hne]; exact h.2 k hk hne⟩
theorem OnlyT.trans {b : Nat} {w w' w2 : World} (h : OnlyT b w w') (k : OnlyT b w' w2) : OnlyT b w w2 :=
 ⟨Nat.le_trans h.1 k.1, fun i hi hne => (k.2 i (Nat.lt_of_lt_of_le hi h.1) hne).trans (h.2 i hi hne)⟩
theorem OnlyT.cell {b : Nat} {w w' : World} (h : OnlyT b w w') {g j : Nat} {x : Value} (hc : w.cell? ⟨g, j, none⟩ = some x) (hne : g ≠ b) : w'.cell? ⟨g, j, none⟩ = some x := by
 have hlt := World.block_lt_of_cell? w _ hc
 have := h.2 g hlt hne
 unfold World.cell? at hc ⊢
 simpa [this] using hc
theorem RS.alloc {w : World} {b p : Nat} {t o : List UInt8} (h : RS w b t p o) (x : Obj) : RS (w.alloc x) b t p o := by
 have hlt := h.lt
 obtain ⟨v, T, h, ho⟩ := h
 refine ⟨v, T, ?_, ho.alloc x⟩
 rw [← h]
 exact (below_alloc w x).block b hlt
def wantN (t : List UInt8) (p : Nat) (c : UInt8) : Nat := if p < t.length then (if t[p]? = some c then 0 else 4) else 2
theorem want_any (t o : List UInt8) (b p : Nat) (c : UInt8) (w : World) (h : RS w b t p o) (hp : p ≤ t.length) (hl : t.length ≤ 140737488355328) :
 Calls Tryz.prog 145 #[.pointer (some ⟨b, 0, none⟩), .int .u8 (c.toNat : Int)] w fun e w' =>
  e = .returned (.int .i64 (wantN t p c : Int)) ∧ RS w' b t (if wantN t p c = 0 then p + 1 else p) o ∧ Below b w w' ∧ OnlyT b w w' := by
 have h0 := h.c0
 have h1 := h.c1
 have hf := h.fr 1
 have hbw := h.lt
 have HRS := Lib.hid h
 clear h
 by_cases hlt : p < t.length
 · have n1 : ((p : Int) == (t.length : Int)) = false := by rw [beq_eq_false_iff_ne]; omega
   have n2 : (p : Int) < (t.length : Int) := by omega
   have n3 : (0 : Int) ≤ (p : Int) := by omega
   obtain ⟨d, hd⟩ : ∃ d, d = t[p] := ⟨_, rfl⟩
   have hgd : (ByteArray.mk t.toArray)[p]'(by simpa [ByteArray.size] using hlt) = d := hd.symm
   have hd' : t[p]? = some d := by rw [hd]; exact List.getElem?_eq_getElem hlt
   have HD := Lib.hid hd'
   clear hd hd'
   by_cases hdc : d = c
   · have n4 : ((d.toNat : Int) != (c.toNat : Int)) = false := by rw [hdc, bne_self_eq_false]
     have hw : wantN t p c = 0 := by rw [wantN, if_pos hlt, HD.out, hdc, if_pos rfl]
     rw [hw]
     have HW := Lib.hid hw
     clear hw hdc
     go_enter Tryz.func145, Tryz.ntmps145
     go_wp2_with fail
     go_quiet (fail)
     go_wp2_with fail
     go_quiet (fail)
     go_wp2_with fail
     go_ret
     exact ⟨rfl, (HRS.out.drewN _).setAt (p + 1) _ (by omega), Below.setCell (p := ⟨b, 1, none⟩) (Below.drewsN (Below.refl b _) _) (Nat.le_refl b) _, (OnlyT.drewN b _ _).setCell _ _⟩
   have n4 : ((d.toNat : Int) != (c.toNat : Int)) = true := by
    rw [bne_iff_ne]; intro h; exact hdc (UInt8.toNat_inj.1 (by omega))
   have hw : wantN t p c = 4 := by rw [wantN, if_pos hlt, HD.out, if_neg (by simpa using hdc)]
   rw [hw]
   have HW := Lib.hid hw
   clear hw hdc
   go_enter Tryz.func145, Tryz.ntmps145
   go_wp2_with fail
   go_quiet (fail)
   go_wp2_with fail
   go_quiet (fail)
   go_wp2_with fail
   go_ret
   exact ⟨rfl, HRS.out.drewN _, Below.drewsN (Below.refl _ _) _, OnlyT.drewN _ _ _⟩
 obtain rfl : p = t.length := by omega
 have n1 : ((t.length : Int) == (t.length : Int)) = true := beq_self_eq_true _
 have hw : wantN t t.length c = 2 := by rw [wantN, if_neg hlt]
 rw [hw]
 clear hw
 go_enter Tryz.func145, Tryz.ntmps145
 go_wp2_with fail
 go_quiet (fail)
 go_wp2_with fail
 go_ret
 exact ⟨rfl, HRS.out.drewN _, Below.drewsN (Below.refl _ _) _, OnlyT.drewN _ _ _⟩
def refD (c : UInt8) : Int := if 48 ≤ c.toNat ∧ c.toNat ≤ 57 then (c.toNat : Int) - 48 else if 97 ≤ c.toNat ∧ c.toNat ≤ 102 then (c.toNat : Int) - 97 + 10 else if 65 ≤ c.toNat ∧ c.toNat ≤ 70 then (c.toNat : Int) - 65 + 10 else -1
def refDE (c : UInt8) : Ending := .returned (.int .i64 (refD c))
theorem tDigit_any (c : UInt8) (w : World) : Calls Tryz.prog 186 #[.int .u8 (c.toNat : Int)] w fun e w' => e = refDE c ∧ w' = w := by
 have hc := c.toNat_lt
 have key : (∃ v : Int, refDE c = .returned (.int .i64 v) ∧ (((48 : Int) ≤ (c.toNat : Int) ∧ (c.toNat : Int) ≤ 57 ∧ v = (c.toNat : Int) - 48) ∨ ((97 : Int) ≤ (c.toNat : Int) ∧ (c.toNat : Int) ≤ 102 ∧ v = (c.toNat : Int) - 97 + 10) ∨
  ((65 : Int) ≤ (c.toNat : Int) ∧ (c.toNat : Int) ≤ 70 ∧ v = (c.toNat : Int) - 65 + 10) ∨ (((c.toNat : Int) < 48 ∨ (57 < (c.toNat : Int) ∧ (c.toNat : Int) < 65) ∨ (70 < (c.toNat : Int) ∧ (c.toNat : Int) < 97) ∨ 102 < (c.toNat : Int)) ∧ v = -1))) := by
  refine ⟨refD c, rfl, ?_⟩
  unfold refD
  split
  · omega
  split
  · omega
  split <;> omega
 obtain ⟨v, hv, hcase⟩ := key
 have HV := Lib.hid hv
 clear hv
 rcases hcase with ⟨h1, h2, rfl⟩ | ⟨h1, h2, rfl⟩ | ⟨h1, h2, rfl⟩ | ⟨h, rfl⟩
 · go_enter Tryz.func186, Tryz.ntmps186
   go_wp2
   go_ret
   exact ⟨HV.out.symm, rfl⟩
 · have h3 : (48 : Int) ≤ (c.toNat : Int) := by omega
   have h4 : ¬ (c.toNat : Int) ≤ 57 := by omega
   go_enter Tryz.func186, Tryz.ntmps186
   go_wp2
   go_ret
   exact ⟨HV.out.symm, rfl⟩
 · have h3 : (48 : Int) ≤ (c.toNat : Int) := by omega
   have h4 : ¬ (c.toNat : Int) ≤ 57 := by omega
   have h5 : ¬ (97 : Int) ≤ (c.toNat : Int) := by omega
   go_enter Tryz.func186, Tryz.ntmps186
   go_wp2
   go_ret
   exact ⟨HV.out.symm, rfl⟩
 rcases h with h | ⟨h1, h2⟩ | ⟨h1, h2⟩ | h
 · have h4 : ¬ (48 : Int) ≤ (c.toNat : Int) := by omega
   have h5 : ¬ (97 : Int) ≤ (c.toNat : Int) := by omega
   have h6 : ¬ (65 : Int) ≤ (c.toNat : Int) := by omega
   go_enter Tryz.func186, Tryz.ntmps186
   go_wp2
   go_ret
   exact ⟨HV.out.symm, rfl⟩
 · have h3 : (48 : Int) ≤ (c.toNat : Int) := by omega
   have h4 : ¬ (c.toNat : Int) ≤ 57 := by omega
   have h5 : ¬ (97 : Int) ≤ (c.toNat : Int) := by omega
   have h6 : ¬ (65 : Int) ≤ (c.toNat : Int) := by omega
   go_enter Tryz.func186, Tryz.ntmps186
   go_wp2
   go_ret
   exact ⟨HV.out.symm, rfl⟩
 · have h3 : (48 : Int) ≤ (c.toNat : Int) := by omega
   have h4 : ¬ (c.toNat : Int) ≤ 57 := by omega
   have h5 : ¬ (97 : Int) ≤ (c.toNat : Int) := by omega
   have h6 : (65 : Int) ≤ (c.toNat : Int) := by omega
   have h7 : ¬ (c.toNat : Int) ≤ 70 := by omega
   go_enter Tryz.func186, Tryz.ntmps186
   go_wp2
   go_ret
   exact ⟨HV.out.symm, rfl⟩
 have h3 : (48 : Int) ≤ (c.toNat : Int) := by omega
 have h4 : ¬ (c.toNat : Int) ≤ 57 := by omega
 have h5 : (97 : Int) ≤ (c.toNat : Int) := by omega
 have h5' : ¬ (c.toNat : Int) ≤ 102 := by omega
 have h6 : (65 : Int) ≤ (c.toNat : Int) := by omega
 have h7 : ¬ (c.toNat : Int) ≤ 70 := by omega
 go_enter Tryz.func186, Tryz.ntmps186
 go_wp2
 go_ret
 exact ⟨HV.out.symm, rfl⟩
theorem tDigit_ret (c : UInt8) (w : World) : Calls Tryz.prog 186 #[.int .u8 (c.toNat : Int)] w fun e w' => e = .returned (.int .i64 (refD c)) ∧ w' = w := tDigit_any c w
theorem refD_range (c : UInt8) : -1 ≤ refD c ∧ refD c ≤ 15 := by
 unfold refD
 split
 · omega
 split
 · omega
 split
 · omega
 · omega
def fourR : Nat → List UInt8 → Nat → Nat × Nat × Nat
 | 0, _, acc => (acc, 0, 0)
 | _ + 1, [], _ => (0, 2, 0)
 | k + 1, c :: l, acc => if refD c < 0 then (0, 4, 0) else ((fourR k l (acc * 16 + (refD c).toNat)).1, (fourR k l (acc * 16 + (refD c).toNat)).2.1, (fourR k l (acc * 16 + (refD c).toNat)).2.2 + 1)
theorem fourR_next (k : Nat) (t : List UInt8) (q acc : Nat) (hq : q < t.length) :
 fourR (k + 1) (t.drop q) acc = if refD t[q] < 0 then (0, 4, 0) else ((fourR k (t.drop (q + 1)) (acc * 16 + (refD t[q]).toNat)).1, (fourR k (t.drop (q + 1)) (acc * 16 + (refD t[q]).toNat)).2.1, (fourR k (t.drop (q + 1)) (acc * 16 + (refD t[q]).toNat)).2.2 + 1) := by
 rw [List.drop_eq_getElem_cons hq, fourR]
theorem or4 (acc : Nat) (d : Int) (h0 : 0 ≤ d) (h1 : d ≤ 15) (ha : acc ≤ 281474976710656) : bits .or .i64 ((acc : Int) * 16) d = ((acc * 16 + d.toNat : Nat) : Int) := by
 obtain ⟨n, rfl⟩ := Int.eq_ofNat_of_zero_le h0
 have e1 : ((acc : Int) * 16) = ((acc * 16 : Nat) : Int) := by omega
 rw [e1]
 have h1' : (BitVec.ofInt 64 ((acc * 16 : Nat) : Int)).toNat = acc * 16 := by rw [BitVec.toNat_ofInt]; omega
 have h2' : (BitVec.ofInt 64 (n : Int)).toNat = n := by rw [BitVec.toNat_ofInt]; omega
 show IntKind.i64.wrap ((BitVec.ofInt 64 ((acc * 16 : Nat) : Int) ||| BitVec.ofInt 64 (n : Int)).toNat : Nat) = _
 rw [BitVec.toNat_or, h1', h2', show acc * 16 = 2 ^ 4 * acc by omega, ← Nat.two_pow_add_eq_or_of_lt (by omega)]
 exact IntWalk.i64_in _ ⟨by omega, by omega⟩
set_option maxHeartbeats 1600000 in
theorem four_any (t o : List UInt8) (b p : Nat) (w : World) (h : RS w b t p o) (hp : p ≤ t.length) (hl : t.length ≤ 140737488355328) :
 Calls Tryz.prog 183 #[.pointer (some ⟨b, 0, none⟩)] w fun e w' =>
  e = .returned (.tuple #[.int .i64 ((fourR 4 (t.drop p) 0).1 : Int), .int .i64 ((fourR 4 (t.drop p) 0).2.1 : Int)]) ∧ RS w' b t (p + (fourR 4 (t.drop p) 0).2.2) o ∧ Below b w w' := by
 go_enter Tryz.func183, Tryz.ntmps183
 go_wp2_with fail
 go_loopw [4, 6] (fun n i wr => ∃ k acc : Nat, k ≤ 4 ∧ p + k ≤ t.length ∧ i = .int .i64 (k : Int) ∧ n = .int .i64 (acc : Int) ∧ acc < 16 ^ k ∧ RS wr b t (p + k) o ∧ Below b w wr ∧
  fourR 4 (t.drop p) 0 = ((fourR (4 - k) (t.drop (p + k)) acc).1, (fourR (4 - k) (t.drop (p + k)) acc).2.1, (fourR (4 - k) (t.drop (p + k)) acc).2.2 + k))
  (fun _ i _ => 4 - (intOf i).toNat)
 case atStart => exact ⟨0, 0, by omega, hp, rfl, rfl, by decide, h, Below.refl _ _, rfl⟩
 case round =>
  obtain ⟨k, acc, hk, hpk, rfl, rfl, hacc, hrs, hb, hr⟩ := hrel
  have hpow : 16 ^ k ≤ 65536 := by
   have := Nat.pow_le_pow_right (n := 16) (by omega) hk
   simpa using this
  have haccb : acc < 65536 := by omega
  have hpow1 : 16 ^ (k + 1) = 16 ^ k * 16 := Nat.pow_succ ..
  obtain ⟨q, hq⟩ : ∃ q, q = p + k := ⟨_, rfl⟩
  rw [← hq] at hrs hpk
  have h0 := hrs.c0
  have h1 := hrs.c1
  have hf := hrs.fr 1
  have hbw := hrs.lt
  have HRS := Lib.hid hrs
  have HR := Lib.hid hr
  have HP1 := Lib.hid hpow1
  clear hrs hr hpow1
  by_cases hlt : k < 4
  · have n0 : (k : Int) < 4 := by omega
    by_cases hqt : q < t.length
    · have n1 : ((q : Int) == (t.length : Int)) = false := by rw [beq_eq_false_iff_ne]; omega
      have n2 : (q : Int) < (t.length : Int) := by omega
      have n3 : (0 : Int) ≤ (q : Int) := by omega
      obtain ⟨d, hd⟩ : ∃ d, d = t[q] := ⟨_, rfl⟩
      have hgd : (ByteArray.mk t.toArray)[q]'(by simpa [ByteArray.size] using hqt) = d := hd.symm
      have hnx := fourR_next (4 - k - 1) t q acc hqt
      rw [← hd, show 4 - k - 1 + 1 = 4 - k by omega] at hnx
      have hrg := refD_range d
      obtain ⟨z, hz⟩ : ∃ z, z = refD d := ⟨_, rfl⟩
      rw [← hz] at hnx hrg
      have HZ := Lib.hid hz
      have HQ := Lib.hid hq
      clear hq hd hz
      by_cases hneg : z < 0
      · rw [if_pos hneg] at hnx
        have hfin : fourR 4 (t.drop p) 0 = (0, 4, k) := by rw [HR.out, ← HQ.out, hnx]; simp
        have HF := Lib.hid hfin
        clear hfin hnx
        go_wp2_with fail
        go_quiet (fail)
        have hrs5 := HRS.out.drewN nq
        have hb5 := Below.drewsN hb nq
        generalize wr.drewN nq = w5 at hrs5 hb5 ⊢
        have h05 := hrs5.c0
        have h15 := hrs5.c1
        have hf5 := hrs5.fr 1
        have hbw5 := hrs5.lt
        have HRS5 := Lib.hid hrs5
        clear hrs5 h0 h1 hf hbw
        go_wp2_with fail
        go_quiet ((go_at_call 186; exact Calls.quiet_of_same (tDigit_ret _ _)))
        rw [← HZ.out]
        go_wp2_with fail
        go_ret2
        exact ⟨by rw [HF.out]; rfl, by rw [HF.out]; exact HQ.out ▸ HRS5.out.drewN _, Below.drewsN hb5 _⟩
      have n5 : ¬ z < 0 := hneg
      rw [if_neg hneg] at hnx
      have HNX := Lib.hid hnx
      clear hnx
      have ho4 := or4 acc z (by omega) hrg.2 (by omega)
      go_wp2_with fail
      go_quiet (fail)
      have hrs5 := HRS.out.drewN nq
      have hb5 := Below.drewsN hb nq
      generalize wr.drewN nq = w5 at hrs5 hb5 ⊢
      have h05 := hrs5.c0
      have h15 := hrs5.c1
      have hf5 := hrs5.fr 1
      have hbw5 := hrs5.lt
      have HRS5 := Lib.hid hrs5
      clear hrs5 h0 h1 hf hbw
      go_wp2_with fail
      go_quiet ((go_at_call 186; exact Calls.quiet_of_same (tDigit_ret _ _)))
      rw [← HZ.out]
      go_wp2_with fail
      go_roundw
      case rel =>
       refine ⟨k + 1, acc * 16 + z.toNat, by omega, by have := HQ.out; omega, by go_num, by rw [show (acc : Int) * 16 + max z 0 = ((acc * 16 + z.toNat : Nat) : Int) by omega], by rw [HP1.out]; omega, ?_, ?_, ?_⟩
       · rw [show p + (k + 1) = q + 1 by have := HQ.out; omega]
         exact (HRS5.out.drewN _).setAt (q + 1) _ (by omega)
       · exact Below.setCell (p := ⟨b, 1, none⟩) (Below.drewsN hb5 _) (Nat.le_refl b) _
       rw [HR.out, ← HQ.out, HNX.out, show 4 - k - 1 = 4 - (k + 1) by omega, show p + (k + 1) = q + 1 by have := HQ.out; omega]
       simp only [Prod.mk.injEq, true_and]
       omega
      case measure => simp [intOf]; omega
    obtain rfl : q = t.length := by omega
    have n1 : ((t.length : Int) == (t.length : Int)) = true := beq_self_eq_true _
    have hfin : fourR 4 (t.drop p) 0 = (0, 2, k) := by
     rw [HR.out, ← hq, List.drop_length, show 4 - k = (4 - k - 1) + 1 by omega]; simp [fourR]
    have HF := Lib.hid hfin
    have HQ := Lib.hid hq
    clear hfin hq
    go_wp2_with fail
    go_quiet (fail)
    go_wp2_with fail
    go_ret2
    exact ⟨by rw [HF.out]; rfl, by rw [HF.out]; exact HQ.out ▸ HRS.out.drewN _, Below.drewsN hb _⟩
  have n0 : ¬ (k : Int) < 4 := by omega
  obtain rfl : k = 4 := by omega
  have hfin : fourR 4 (t.drop p) 0 = (acc, 0, 4) := by rw [HR.out]; simp [fourR]
  have HF := Lib.hid hfin
  have HQ := Lib.hid hq
  clear hfin hq
  go_wp2_with fail
  go_ret2
  exact ⟨by rw [HF.out]; rfl, by rw [HF.out]; exact HQ.out ▸ HRS.out, hb⟩
def meB (c : UInt8) : UInt8 × Bool := if c.toNat = 34 then (34, true) else if c.toNat = 92 then (92, true) else if c.toNat = 47 then (47, true) else if c.toNat = 98 then (8, true) else if c.toNat = 102 then (12, true) else if c.toNat = 110 then (10, true) else if c.toNat = 114 then (13, true) else if c.toNat = 116 then (9, true) else (0, false)
def meE (c : UInt8) : Ending := .returned (.tuple #[.int .u8 ((meB c).1.toNat : Int), .bool (meB c).2])
theorem meant_any (c : UInt8) (w : World) : Calls Tryz.prog 177 #[.int .u8 (c.toNat : Int)] w fun e w' => e = meE c ∧ w' = w := by
 by_cases h34 : c.toNat = 34
 · have e : meE c = .returned (.tuple #[.int .u8 34, .bool true]) := by rw [meE, show meB c = (34, true) by simp [meB, h34]]; rfl
   rw [e, show (c.toNat : Int) = 34 by omega]
   clear e
   go_enter Tryz.func177, Tryz.ntmps177
   go_wp2
   go_ret2
   exact ⟨rfl, rfl⟩
 by_cases h92 : c.toNat = 92
 · have e : meE c = .returned (.tuple #[.int .u8 92, .bool true]) := by rw [meE, show meB c = (92, true) by simp [meB, h92]]; rfl
   rw [e, show (c.toNat : Int) = 92 by omega]
   clear e
   go_enter Tryz.func177, Tryz.ntmps177
   go_wp2
   go_ret2
   exact ⟨rfl, rfl⟩
 by_cases h47 : c.toNat = 47
 · have e : meE c = .returned (.tuple #[.int .u8 47, .bool true]) := by rw [meE, show meB c = (47, true) by simp [meB, h47]]; rfl
   rw [e, show (c.toNat : Int) = 47 by omega]
   clear e
   go_enter Tryz.func177, Tryz.ntmps177
   go_wp2
   go_ret2
   exact ⟨rfl, rfl⟩
 by_cases h98 : c.toNat = 98
 · have e : meE c = .returned (.tuple #[.int .u8 8, .bool true]) := by rw [meE, show meB c = (8, true) by simp [meB, h98]]; rfl
   rw [e, show (c.toNat : Int) = 98 by omega]
   clear e
   go_enter Tryz.func177, Tryz.ntmps177
   go_wp2
   go_ret2
   exact ⟨rfl, rfl⟩
 by_cases h102 : c.toNat = 102
 · have e : meE c = .returned (.tuple #[.int .u8 12, .bool true]) := by rw [meE, show meB c = (12, true) by simp [meB, h102]]; rfl
   rw [e, show (c.toNat : Int) = 102 by omega]
   clear e
   go_enter Tryz.func177, Tryz.ntmps177
   go_wp2
   go_ret2
   exact ⟨rfl, rfl⟩
 by_cases h110 : c.toNat = 110
 · have e : meE c = .returned (.tuple #[.int .u8 10, .bool true]) := by rw [meE, show meB c = (10, true) by simp [meB, h110]]; rfl
   rw [e, show (c.toNat : Int) = 110 by omega]
   clear e
   go_enter Tryz.func177, Tryz.ntmps177
   go_wp2
   go_ret2
   exact ⟨rfl, rfl⟩
 by_cases h114 : c.toNat = 114
 · have e : meE c = .returned (.tuple #[.int .u8 13, .bool true]) := by rw [meE, show meB c = (13, true) by simp [meB, h114]]; rfl
   rw [e, show (c.toNat : Int) = 114 by omega]
   clear e
   go_enter Tryz.func177, Tryz.ntmps177
   go_wp2
   go_ret2
   exact ⟨rfl, rfl⟩
 by_cases h116 : c.toNat = 116
 · have e : meE c = .returned (.tuple #[.int .u8 9, .bool true]) := by rw [meE, show meB c = (9, true) by simp [meB, h116]]; rfl
   rw [e, show (c.toNat : Int) = 116 by omega]
   clear e
   go_enter Tryz.func177, Tryz.ntmps177
   go_wp2
   go_ret2
   exact ⟨rfl, rfl⟩
 have e34 : ((c.toNat : Int) == 34) = false := by rw [beq_eq_false_iff_ne]; omega
 have e92 : ((c.toNat : Int) == 92) = false := by rw [beq_eq_false_iff_ne]; omega
 have e47 : ((c.toNat : Int) == 47) = false := by rw [beq_eq_false_iff_ne]; omega
 have e98 : ((c.toNat : Int) == 98) = false := by rw [beq_eq_false_iff_ne]; omega
 have e102 : ((c.toNat : Int) == 102) = false := by rw [beq_eq_false_iff_ne]; omega
 have e110 : ((c.toNat : Int) == 110) = false := by rw [beq_eq_false_iff_ne]; omega
 have e114 : ((c.toNat : Int) == 114) = false := by rw [beq_eq_false_iff_ne]; omega
 have e116 : ((c.toNat : Int) == 116) = false := by rw [beq_eq_false_iff_ne]; omega
 have e : meE c = .returned (.tuple #[.int .u8 0, .bool false]) := by rw [meE, show meB c = (0, false) by simp [meB, h34, h92, h47, h98, h102, h110, h114, h116]]; rfl
 rw [e]
 clear e h34 h92 h47 h98 h102 h110 h114 h116
 go_enter Tryz.func177, Tryz.ntmps177
 go_wp2_with fail
 go_ret2
 exact ⟨rfl, rfl⟩
def secR (t : List UInt8) (p : Nat) : Nat × Nat × Nat :=
 if wantN t p 92 ≠ 0 then (0, wantN t p 92, 0)
 else if wantN t (p + 1) 117 ≠ 0 then (0, wantN t (p + 1) 117, 1)
 else ((fourR 4 (t.drop (p + 2)) 0).1, if (fourR 4 (t.drop (p + 2)) 0).2.1 = 0 ∧ ((fourR 4 (t.drop (p + 2)) 0).1 < 56320 ∨ 57343 < (fourR 4 (t.drop (p + 2)) 0).1) then 4 else (fourR 4 (t.drop (p + 2)) 0).2.1, (fourR 4 (t.drop (p + 2)) 0).2.2 + 2)
theorem wantN_zero {t : List UInt8} {p : Nat} {c : UInt8} (h : wantN t p c = 0) : p < t.length := by
 unfold wantN at h
 split at h
 · assumption
 · cases h
set_option maxHeartbeats 1600000 in
theorem second_any (t o : List UInt8) (b p : Nat) (w : World) (h : RS w b t p o) (hp : p ≤ t.length) (hl : t.length ≤ 140737488355328) :
 Calls Tryz.prog 184 #[.pointer (some ⟨b, 0, none⟩)] w fun e w' =>
  e = .returned (.tuple #[.int .i64 ((secR t p).1 : Int), .int .i64 ((secR t p).2.1 : Int)]) ∧ RS w' b t (p + (secR t p).2.2) o ∧ Below b w w' := by
 have HRS := Lib.hid h
 clear h
 go_enter Tryz.func184, Tryz.ntmps184
 go_wp2_with fail
 have hlt := HRS.out.lt
 have hc0 : (w.alloc (.cells #[.int .u8 92, .int .u8 117] 5)).cell? ⟨w.heap.size, 0, none⟩ = some (.int .u8 92) := by simp
 have hc1 : (w.alloc (.cells #[.int .u8 92, .int .u8 117] 5)).cell? ⟨w.heap.size, 1, none⟩ = some (.int .u8 117) := by simp
 have hba : Below b w (w.alloc (.cells #[.int .u8 92, .int .u8 117] 5)) := (Below.refl b w).alloc (by omega) _
 have hra := HRS.out.alloc (.cells #[.int .u8 92, .int .u8 117] 5)
 obtain ⟨g, hg⟩ : ∃ g, g = w.heap.size := ⟨_, rfl⟩
 rw [← hg] at hc0 hc1 hlt ⊢
 have HG := Lib.hid hg
 generalize hwa : w.alloc (.cells #[.int .u8 92, .int .u8 117] 5) = wa at *
 have HWA := Lib.hid hwa
 clear hwa hg
 go_loopw [11] (fun i wr => ∃ k : Nat, k ≤ 2 ∧ i = .int .i64 (k : Int) ∧ RS wr b t (p + k) o ∧ p + k ≤ t.length ∧ Below b w wr ∧ OnlyT b wa wr ∧ (0 < k → wantN t p 92 = 0) ∧ (1 < k → wantN t (p + 1) 117 = 0))
  (fun i _ => 2 - (intOf i).toNat)
 case atStart => exact ⟨0, by omega, rfl, hra, hp, hba, ⟨Nat.le_refl _, fun _ _ _ => rfl⟩, (fun h => by omega), (fun h => by omega)⟩
 case round =>
  obtain ⟨k, hk, rfl, hrs, hpk, hb, hon, hw0, hw1⟩ := hrel
  have HW0 := Lib.hid hw0
  have HW1 := Lib.hid hw1
  clear hw0 hw1
  have d0 := hon.cell hc0 (by omega)
  have d1 := hon.cell hc1 (by omega)
  rcases (show k = 0 ∨ k = 1 ∨ k = 2 by omega) with rfl | rfl | rfl
  · go_wp2_with fail
    refine (want_any t o b p 92 _ hrs hpk hl).mono ?_
    rintro e w3 ⟨rfl, hrs3, hb3, hon3⟩
    by_cases hz : wantN t p 92 = 0
    · have HZ := Lib.hid hz
      rw [if_pos hz] at hrs3
      rw [hz]
      clear hz
      go_wp2_with fail
      go_roundw
      case rel => exact ⟨1, by omega, rfl, hrs3, wantN_zero HZ.out, hb.trans hb3, hon.trans hon3, fun _ => HZ.out, fun h => by omega⟩
      case measure => simp [intOf]
    have hne : (((wantN t p 92 : Nat) : Int) != 0) = true := by rw [bne_iff_ne]; omega
    rw [if_neg hz] at hrs3
    have hs : secR t p = (0, wantN t p 92, 0) := by rw [secR, if_pos hz]
    have HS := Lib.hid hs
    clear hz hs
    go_wp2_with fail
    go_ret2
    exact ⟨by rw [HS.out]; rfl, by rw [HS.out]; exact hrs3, hb.trans hb3⟩
  · go_wp2_with fail
    refine (want_any t o b (p + 1) 117 _ hrs hpk hl).mono ?_
    rintro e w3 ⟨rfl, hrs3, hb3, hon3⟩
    by_cases hz : wantN t (p + 1) 117 = 0
    · have HZ := Lib.hid hz
      rw [if_pos hz] at hrs3
      rw [hz]
      clear hz
      go_wp2_with fail
      go_roundw
      case rel => exact ⟨2, by omega, rfl, hrs3, wantN_zero HZ.out, hb.trans hb3, hon.trans hon3, fun _ => HW0.out (by omega), fun _ => HZ.out⟩
      case measure => simp [intOf]
    have hne : (((wantN t (p + 1) 117 : Nat) : Int) != 0) = true := by rw [bne_iff_ne]; omega
    rw [if_neg hz] at hrs3
    have hs : secR t p = (0, wantN t (p + 1) 117, 1) := by rw [secR, if_neg (by rw [HW0.out (by omega)]; simp), if_pos hz]
    have HS := Lib.hid hs
    clear hz hs
    go_wp2_with fail
    go_ret2
    exact ⟨by rw [HS.out]; rfl, by rw [HS.out]; exact hrs3, hb.trans hb3⟩
  go_wp2_with fail
  refine (four_any t o b (p + 2) _ hrs hpk hl).mono ?_
  rintro e w3 ⟨rfl, hrs3, hb3⟩
  have hs : secR t p = ((fourR 4 (t.drop (p + 2)) 0).1, if (fourR 4 (t.drop (p + 2)) 0).2.1 = 0 ∧ ((fourR 4 (t.drop (p + 2)) 0).1 < 56320 ∨ 57343 < (fourR 4 (t.drop (p + 2)) 0).1) then 4 else (fourR 4 (t.drop (p + 2)) 0).2.1, (fourR 4 (t.drop (p + 2)) 0).2.2 + 2) := by
   rw [secR, if_neg (by rw [HW0.out (by omega)]; simp), if_neg (by rw [HW1.out (by omega)]; simp)]
  obtain ⟨n, er, m, hr⟩ : ∃ n er m, fourR 4 (t.drop (p + 2)) 0 = (n, er, m) := ⟨_, _, _, rfl⟩
  rw [hr] at hs hrs3
  rw [hr]
  have HS := Lib.hid hs
  clear hs hr
  obtain ⟨N, hN⟩ : ∃ N : Int, N = (n : Int) := ⟨_, rfl⟩
  simp only
  rw [← hN]
  by_cases he : er = 0
  · subst he
    by_cases hlo : n < 56320
    · have n1 : N < 56320 := by omega
      have hv : secR t p = (n, 4, m + 2) := by rw [HS.out]; simp [hlo]
      have HV := Lib.hid hv
      have HN := Lib.hid hN
      clear hv hN hlo HS
      go_wp2_with fail
      go_ret2
      exact ⟨by rw [HV.out, HN.out]; rfl, by rw [HV.out]; simpa [Nat.add_assoc, Nat.add_comm, Nat.add_left_comm] using hrs3, hb.trans hb3⟩
    have n1 : ¬ N < 56320 := by omega
    by_cases hhi : 57343 < n
    · have n2 : 57343 < N := by omega
      have hv : secR t p = (n, 4, m + 2) := by rw [HS.out]; simp [hhi]
      have HV := Lib.hid hv
      have HN := Lib.hid hN
      clear hv hN hlo hhi HS
      go_wp2_with fail
      go_ret2
      exact ⟨by rw [HV.out, HN.out]; rfl, by rw [HV.out]; simpa [Nat.add_assoc, Nat.add_comm, Nat.add_left_comm] using hrs3, hb.trans hb3⟩
    have n2 : ¬ 57343 < N := by omega
    have hv : secR t p = (n, 0, m + 2) := by rw [HS.out]; simp [hlo, hhi]
    have HV := Lib.hid hv
    have HN := Lib.hid hN
    clear hv hN hlo hhi HS
    go_wp2_with fail
    go_ret2
    exact ⟨by rw [HV.out, HN.out]; rfl, by rw [HV.out]; simpa [Nat.add_assoc, Nat.add_comm, Nat.add_left_comm] using hrs3, hb.trans hb3⟩
  have n0 : ((er : Int) == 0) = false := by rw [beq_eq_false_iff_ne]; omega
  have hv : secR t p = (n, er, m + 2) := by rw [HS.out]; simp [he]
  have HV := Lib.hid hv
  have HN := Lib.hid hN
  clear hv hN he HS
  go_wp2_with fail
  go_ret2
  exact ⟨by rw [HV.out, HN.out]; rfl, by rw [HV.out]; simpa [Nat.add_assoc, Nat.add_comm, Nat.add_left_comm] using hrs3, hb.trans hb3⟩
def sb (c : Nat) : List UInt8 :=
 if c < 128 then [UInt8.ofNat c]
 else if c < 2048 then [UInt8.ofNat (192 + c / 64), UInt8.ofNat (128 + c % 64)]
 else if c < 65536 then [UInt8.ofNat (224 + c / 4096), UInt8.ofNat (128 + c / 64 % 64), UInt8.ofNat (128 + c % 64)]
 else [UInt8.ofNat (240 + c / 262144), UInt8.ofNat (128 + c / 4096 % 64), UInt8.ofNat (128 + c / 64 % 64), UInt8.ofNat (128 + c % 64)]
theorem orI (h k j x : Nat) (hh : h = 2 ^ j * k) (hx : x < 2 ^ j) (hb : h + x < 9223372036854775808) : bits .or .i64 (h : Int) (x : Int) = ((h + x : Nat) : Int) := by
 have h1 : (BitVec.ofInt 64 (h : Int)).toNat = h := by rw [BitVec.toNat_ofInt]; omega
 have h2 : (BitVec.ofInt 64 (x : Int)).toNat = x := by rw [BitVec.toNat_ofInt]; omega
 show IntKind.i64.wrap ((BitVec.ofInt 64 (h : Int) ||| BitVec.ofInt 64 (x : Int)).toNat : Nat) = _
 rw [BitVec.toNat_or, h1, h2, hh, ← Nat.two_pow_add_eq_or_of_lt hx, ← hh]
 exact IntWalk.i64_in _ ⟨by omega, by omega⟩
theorem bvN (n : Nat) (x : Int) (h : n < 256) (hx : x = (n : Int)) : Value.int .u8 x = bv (UInt8.ofNat n) := by
 subst hx
 unfold bv
 rw [show (UInt8.ofNat n).toNat = n by simp; omega]
theorem Rd.three (E : TypeId) (w : World) (c1 c2 c3 : UInt8) (x1 x2 x3 : Value) (b : Nat) (h1 : x1 = bv c1) (h2 : x2 = bv c2) (h3 : x3 = bv c3) (hb : b = w.heap.size) :
 Rd (w.alloc (.cells #[x1, x2, x3] E)) (.slice (some ⟨b, 0, none⟩) 3 3) [c1, c2, c3] := by
 subst hb h1 h2 h3
 refine ⟨_, 3, rfl, by simp, by decide, (fun h => by cases h), fun _ => ⟨w.heap.size, 0, rfl, fun i hi => ?_⟩⟩
 simp at hi
 rcases (show i = 0 ∨ i = 1 ∨ i = 2 by omega) with rfl | rfl | rfl <;> simp
theorem Rd.four (E : TypeId) (w : World) (c1 c2 c3 c4 : UInt8) (x1 x2 x3 x4 : Value) (b : Nat) (h1 : x1 = bv c1) (h2 : x2 = bv c2) (h3 : x3 = bv c3) (h4 : x4 = bv c4) (hb : b = w.heap.size) :
 Rd (w.alloc (.cells #[x1, x2, x3, x4] E)) (.slice (some ⟨b, 0, none⟩) 4 4) [c1, c2, c3, c4] := by
 subst hb h1 h2 h3 h4
 refine ⟨_, 4, rfl, by simp, by decide, (fun h => by cases h), fun _ => ⟨w.heap.size, 0, rfl, fun i hi => ?_⟩⟩
 simp at hi
 rcases (show i = 0 ∨ i = 1 ∨ i = 2 ∨ i = 3 by omega) with rfl | rfl | rfl | rfl <;> simp
theorem tail_any (c : Nat) (w : World) (hc : c ≤ 4294967296) : Calls Tryz.prog 187 #[.int .i64 (c : Int)] w fun e w' => e = .returned (.int .u8 ((128 + c % 64 : Nat) : Int)) ∧ w' = w := by
 have a1 := andI c 63 6 (by decide) (by omega) (by decide)
 simp only [Nat.reducePow] at a1
 have a1' : bits .and .i64 (c : Int) 63 = ((c % 64 : Nat) : Int) := a1
 obtain ⟨x, hx⟩ : ∃ x, x = c % 64 := ⟨_, rfl⟩
 rw [← hx] at a1' ⊢
 have hx64 : x < 64 := by omega
 have o1 : bits .or .i64 128 (x : Int) = ((128 + x : Nat) : Int) := orI 128 1 7 x (by decide) (by omega) (by omega)
 have HX := Lib.hid hx
 clear hx a1
 have hwr : IntKind.u8.wrap ((128 + x : Nat) : Int) = ((128 + x : Nat) : Int) := IntWalk.u8_in _ ⟨by omega, by omega⟩
 go_enter Tryz.func187, Tryz.ntmps187
 go_wp2_with fail
 go_ret
 exact ⟨by congr 2, rfl⟩
set_option maxHeartbeats 1600000 in
theorem appendSign_any (v : Value) (l : List UInt8) (c : Nat) (w : World) (base : Nat) (hown : Own 5 w base v l) (hbase : base ≤ w.heap.size) (hl : l.length ≤ 70368744177664) (hc : c ≤ 1114111) :
 Calls Tryz.prog 185 #[v, .int .i64 (c : Int)] w fun e w' => ∃ v', e = .returned v' ∧ Own 5 w' base v' (l ++ sb c) ∧ w.grownBy w' v.ownBlock := by
 obtain ⟨A, hA⟩ : ∃ A : Int, A = (c : Int) := ⟨_, rfl⟩
 by_cases h1 : c < 128
 · have n1 : A < 128 := by omega
   have hs : sb c = [UInt8.ofNat c] := by rw [sb, if_pos h1]
   have hw1 : IntKind.u8.wrap A = A := IntWalk.u8_in _ ⟨by omega, by omega⟩
   have HS := Lib.hid hs
   have hcv : A = ((UInt8.ofNat c).toNat : Int) := by rw [hA]; simp; omega
   rw [← hA]
   have HA := Lib.hid hA
   have HC := Lib.hid hcv
   clear hs h1 hA hcv
   go_enter Tryz.func185, Tryz.ntmps185
   go_wp2_with (at_builtin; refine hold ?_)
   intro _
   refine bt.append1 rfl _ _ rfl base v l (UInt8.ofNat c) _ HC.out hown rfl rfl (by omega) hbase ?_
   intro v' w2 ho2 hg2
   go_wp2_with fail
   go_ret
   exact ⟨v', rfl, by rw [HS.out]; exact ho2, hg2⟩
 have n1 : ¬ A < 128 := by omega
 by_cases h2 : c < 2048
 · have n2 : A < 2048 := by omega
   have hs : sb c = [UInt8.ofNat (192 + c / 64), UInt8.ofNat (128 + c % 64)] := by rw [sb, if_neg h1, if_pos h2]
   have HS := Lib.hid hs
   have o1 : bits .or .i64 192 (A / 64) = ((192 + c / 64 : Nat) : Int) := by
    rw [hA, show ((c : Int) / 64) = ((c / 64 : Nat) : Int) by omega]
    exact orI 192 3 6 _ (by decide) (by omega) (by omega)
   have hw1 : IntKind.u8.wrap ((192 + c / 64 : Nat) : Int) = ((192 + c / 64 : Nat) : Int) := IntWalk.u8_in _ ⟨by omega, by omega⟩
   rw [← hA]
   have t0 : ∀ w, Calls Tryz.prog 187 #[.int .i64 A] w fun e w' => e = .returned (.int .u8 ((128 + c % 64 : Nat) : Int)) ∧ w' = w := by rw [hA]; exact fun w => tail_any c w (by omega)
   have T0 := Lib.hid t0
   have HA := Lib.hid hA
   clear hs h1 hA t0
   go_enter Tryz.func185, Tryz.ntmps185
   go_wp2_with fail
   refine (T0.out _).mono ?_
   rintro e w' ⟨rfl, rfl⟩
   go_wp2_with (at_builtin; refine hold ?_)
   intro _
   refine bt.appendS rfl _ _ rfl base v _ l [UInt8.ofNat (192 + c / 64), UInt8.ofNat (128 + c % 64)] (hown.alloc _) (Rd.two _ _ _ _ _ _ _ (bvN _ _ (by omega) (by omega)) (bvN _ _ (by omega) (by omega)) rfl) rfl rfl (by simp; omega) (by simp; omega) ?_
   intro v' w2 ho2 hg2
   go_wp2_with fail
   go_ret
   exact ⟨v', rfl, by rw [HS.out]; exact ho2, grown_trans (World.grownBy_alloc _ _ _) hg2⟩
 have n2 : ¬ A < 2048 := by omega
 have t0 : ∀ w, Calls Tryz.prog 187 #[.int .i64 A] w fun e w' => e = .returned (.int .u8 ((128 + c % 64 : Nat) : Int)) ∧ w' = w := by rw [hA]; exact fun w => tail_any c w (by omega)
 have t1 : ∀ w, Calls Tryz.prog 187 #[.int .i64 (A / 64)] w fun e w' => e = .returned (.int .u8 ((128 + c / 64 % 64 : Nat) : Int)) ∧ w' = w := by
  rw [hA, show ((c : Int) / 64) = ((c / 64 : Nat) : Int) by omega]; exact fun w => tail_any (c / 64) w (by omega)
 have t2 : ∀ w, Calls Tryz.prog 187 #[.int .i64 (A / 4096)] w fun e w' => e = .returned (.int .u8 ((128 + c / 4096 % 64 : Nat) : Int)) ∧ w' = w := by
  rw [hA, show ((c : Int) / 4096) = ((c / 4096 : Nat) : Int) by omega]; exact fun w => tail_any (c / 4096) w (by omega)
 have T0 := Lib.hid t0
 have T1 := Lib.hid t1
 have T2 := Lib.hid t2
 clear t0 t1 t2
 by_cases h3 : c < 65536
 · have n3 : A < 65536 := by omega
   have hs : sb c = [UInt8.ofNat (224 + c / 4096), UInt8.ofNat (128 + c / 64 % 64), UInt8.ofNat (128 + c % 64)] := by rw [sb, if_neg h1, if_neg h2, if_pos h3]
   have HS := Lib.hid hs
   have o1 : bits .or .i64 224 (A / 4096) = ((224 + c / 4096 : Nat) : Int) := by
    rw [hA, show ((c : Int) / 4096) = ((c / 4096 : Nat) : Int) by omega]
    exact orI 224 7 5 _ (by decide) (by omega) (by omega)
   have hw1 : IntKind.u8.wrap ((224 + c / 4096 : Nat) : Int) = ((224 + c / 4096 : Nat) : Int) := IntWalk.u8_in _ ⟨by omega, by omega⟩
   rw [← hA]
   have H3 := Lib.hid h3
   have HA := Lib.hid hA
   clear hs h1 h2 h3 hA
   go_enter Tryz.func185, Tryz.ntmps185
   go_wp2_with fail
   refine (T1.out _).mono ?_
   rintro e w' ⟨rfl, rfl⟩
   go_wp2_with fail
   refine (T0.out _).mono ?_
   rintro e w' ⟨rfl, rfl⟩
   go_wp2_with (at_builtin; refine hold ?_)
   intro _
   have h3 := H3.out
   refine bt.appendS rfl _ _ rfl base v _ l [UInt8.ofNat (224 + c / 4096), UInt8.ofNat (128 + c / 64 % 64), UInt8.ofNat (128 + c % 64)] (hown.alloc _) (Rd.three _ _ _ _ _ _ _ _ _ (bvN _ _ (by omega) (by omega)) (bvN _ _ (by omega) (by omega)) (bvN _ _ (by omega) (by omega)) rfl) rfl rfl (by simp; omega) (by simp; omega) ?_
   clear h3
   intro v' w2 ho2 hg2
   go_wp2_with fail
   go_ret
   exact ⟨v', rfl, by rw [HS.out]; exact ho2, grown_trans (World.grownBy_alloc _ _ _) hg2⟩
 have n3 : ¬ A < 65536 := by omega
 have hs : sb c = [UInt8.ofNat (240 + c / 262144), UInt8.ofNat (128 + c / 4096 % 64), UInt8.ofNat (128 + c / 64 % 64), UInt8.ofNat (128 + c % 64)] := by rw [sb, if_neg h1, if_neg h2, if_neg h3]
 have HS := Lib.hid hs
 have o1 : bits .or .i64 240 (A / 262144) = ((240 + c / 262144 : Nat) : Int) := by
  rw [hA, show ((c : Int) / 262144) = ((c / 262144 : Nat) : Int) by omega]
  exact orI 240 15 4 _ (by decide) (by omega) (by omega)
 have hw1 : IntKind.u8.wrap ((240 + c / 262144 : Nat) : Int) = ((240 + c / 262144 : Nat) : Int) := IntWalk.u8_in _ ⟨by omega, by omega⟩
 rw [← hA]
 have HA := Lib.hid hA
 have HCC := Lib.hid hc
 clear hs h1 h2 h3 hA hc
 go_enter Tryz.func185, Tryz.ntmps185
 go_wp2_with fail
 refine (T2.out _).mono ?_
 rintro e w' ⟨rfl, rfl⟩
 go_wp2_with fail
 refine (T1.out _).mono ?_
 rintro e w' ⟨rfl, rfl⟩
 go_wp2_with fail
 refine (T0.out _).mono ?_
 rintro e w' ⟨rfl, rfl⟩
 go_wp2_with (at_builtin; refine hold ?_)
 intro _
 have hc := HCC.out
 refine bt.appendS rfl _ _ rfl base v _ l [UInt8.ofNat (240 + c / 262144), UInt8.ofNat (128 + c / 4096 % 64), UInt8.ofNat (128 + c / 64 % 64), UInt8.ofNat (128 + c % 64)] (hown.alloc _) (Rd.four _ _ _ _ _ _ _ _ _ _ _ (bvN _ _ (by omega) (by omega)) (bvN _ _ (by omega) (by omega)) (bvN _ _ (by omega) (by omega)) (bvN _ _ (by omega) (by omega)) rfl) rfl rfl (by simp; omega) (by simp; omega) ?_
 clear hc
 intro v' w2 ho2 hg2
 go_wp2_with fail
 go_ret
 exact ⟨v', rfl, by rw [HS.out]; exact ho2, grown_trans (World.grownBy_alloc _ _ _) hg2⟩
theorem fourR_lt : ∀ (k : Nat) (t : List UInt8) (acc : Nat), (fourR k t acc).1 < (acc + 1) * 16 ^ k
 | 0, _, acc => by simp [fourR]
 | k + 1, [], acc => by simp only [fourR]; exact Nat.mul_pos (by omega) (Nat.pow_pos (by omega))
 | k + 1, c :: l, acc => by
   rw [fourR]
   split
   · exact Nat.mul_pos (by omega) (Nat.pow_pos (by omega))
   have h := fourR_lt k l (acc * 16 + (refD c).toNat)
   have hr := refD_range c
   have : (acc * 16 + (refD c).toNat + 1) * 16 ^ k ≤ ((acc + 1) * 16) * 16 ^ k := Nat.mul_le_mul_right _ (by omega)
   rw [Nat.pow_succ, Nat.mul_comm (16 ^ k) 16, ← Nat.mul_assoc]
   simp only
   omega
theorem fourR_use : ∀ (k : Nat) (t : List UInt8) (acc : Nat), (fourR k t acc).2.2 ≤ t.length
 | 0, _, _ => by simp [fourR]
 | k + 1, [], _ => by simp [fourR]
 | k + 1, c :: l, acc => by
   rw [fourR]
   split
   · simp
   have := fourR_use k l (acc * 16 + (refD c).toNat)
   simp; omega
theorem secR_use (t : List UInt8) (p : Nat) (hp : p ≤ t.length) : p + (secR t p).2.2 ≤ t.length := by
 unfold secR
 split
 · simpa using hp
 · next h =>
   have h1 := wantN_zero (Decidable.not_not.1 h)
   split
   · simp; omega
   · next h' =>
     have h2 := wantN_zero (Decidable.not_not.1 h')
     have := fourR_use 4 (t.drop (p + 2)) 0
     rw [List.length_drop] at this
     simp only
     omega
def unitF (c m : Nat) : Nat × Nat × List UInt8 := if signB c = true then (0, m, sb c) else (4, m, [])
def unitR (t : List UInt8) (p : Nat) : Nat × Nat × List UInt8 :=
 if (fourR 4 (t.drop p) 0).2.1 ≠ 0 then ((fourR 4 (t.drop p) 0).2.1, (fourR 4 (t.drop p) 0).2.2, [])
 else if 55296 ≤ (fourR 4 (t.drop p) 0).1 ∧ (fourR 4 (t.drop p) 0).1 < 56320 then
  if (secR t (p + (fourR 4 (t.drop p) 0).2.2)).2.1 ≠ 0 then ((secR t (p + (fourR 4 (t.drop p) 0).2.2)).2.1, (fourR 4 (t.drop p) 0).2.2 + (secR t (p + (fourR 4 (t.drop p) 0).2.2)).2.2, [])
  else unitF (65536 + ((fourR 4 (t.drop p) 0).1 - 55296) * 1024 + ((secR t (p + (fourR 4 (t.drop p) 0).2.2)).1 - 56320)) ((fourR 4 (t.drop p) 0).2.2 + (secR t (p + (fourR 4 (t.drop p) 0).2.2)).2.2)
 else unitF (fourR 4 (t.drop p) 0).1 (fourR 4 (t.drop p) 0).2.2
theorem Own.form {E : TypeId} {w : World} {base : Nat} {v : Value} {l : List UInt8} (h : Own E w base v l) : ∃ a n cap, v = .slice a n cap := by
 obtain ⟨a, cap, hv, _⟩ := h.rd
 exact ⟨a, _, cap, hv⟩
theorem secR_ok (t : List UInt8) (p : Nat) : (secR t p).2.1 = 0 → 56320 ≤ (secR t p).1 ∧ (secR t p).1 ≤ 57343 := by
 unfold secR
 split
 · next h => intro h'; exact absurd h' h
 split
 · next h => intro h'; exact absurd h' h
 simp only
 split
 · intro h; cases h
 next h => intro h'; simp only [h', true_and] at h; omega
theorem RS.still {w w' : World} {b p : Nat} {t o : List UInt8} {v : Value} (h : RS w b t p o) (hc : w.cell? ⟨b, 2, none⟩ = some v) (hg : w.grownBy w' v.ownBlock) : w'.cell? ⟨b, 2, none⟩ = some v ∧ w'.frozen? ⟨b, 2, none⟩ = false := by
 obtain ⟨v0, T, h, ho⟩ := h
 have e : v0 = v := by simpa [World.cell?, h] using hc
 subst e
 have hb : w'.heap[b]? = some (.cells #[str t, .int .i64 (p : Int), v0] T (0, 0)) := by
  rw [hg.block b (Array.getElem?_eq_some_iff.1 h).1 (fun e => by have := ho.base b e.symm; omega)]
  exact h
 exact ⟨by simp [World.cell?, hb], frozen_of_row w' b 2 _ T hb⟩
set_option maxHeartbeats 1600000 in
theorem unit_any (t o : List UInt8) (b p : Nat) (w : World) (h : RS w b t p o) (hp : p ≤ t.length) (hl : t.length ≤ 140737488355328) (ho : o.length ≤ 70368744177664) :
 Calls Tryz.prog 176 #[.pointer (some ⟨b, 0, none⟩)] w fun e w' =>
  e = .returned (.int .i64 ((unitR t p).1 : Int)) ∧ RS w' b t (p + (unitR t p).2.1) (o ++ (unitR t p).2.2) ∧ Below b w w' := by
 have HRS := Lib.hid h
 clear h
 have hu := unitR.eq_def t p
 obtain ⟨n, er, m, hr⟩ : ∃ n er m, fourR 4 (t.drop p) 0 = (n, er, m) := ⟨_, _, _, rfl⟩
 have hn := fourR_lt 4 (t.drop p) 0
 have hm := fourR_use 4 (t.drop p) 0
 rw [List.length_drop] at hm
 rw [hr] at hu hn hm
 simp only [Nat.zero_add, Nat.one_mul, Nat.reducePow] at hu hn hm
 have HU := Lib.hid hu
 have HR := Lib.hid hr
 clear hu hr
 go_enter Tryz.func176, Tryz.ntmps176
 go_wp2_with fail
 refine (four_any t o b p _ HRS.out hp hl).mono ?_
 rintro e w3 ⟨rfl, hrs3, hb3⟩
 rw [HR.out] at hrs3 ⊢
 simp only at hrs3 ⊢
 by_cases he : er = 0
 · subst he
   obtain ⟨A, hA⟩ : ∃ A : Int, A = (n : Int) := ⟨_, rfl⟩
   rw [← hA]
   by_cases hsur : 55296 ≤ n ∧ n < 56320
   · have HSUR := Lib.hid hsur
     have n1 : 55296 ≤ A := by omega
     have n2 : A < 56320 := by omega
     have hpm : p + m ≤ t.length := by omega
     obtain ⟨sn, se, sm, hs⟩ : ∃ sn se sm, secR t (p + m) = (sn, se, sm) := ⟨_, _, _, rfl⟩
     have hok := secR_ok t (p + m)
     rw [hs] at hok
     simp only at hok
     have HS := Lib.hid hs
     have HA := Lib.hid hA
     have HN := Lib.hid hn
     clear hA hn hsur hs
     go_wp2_with fail
     refine (second_any t o b (p + m) _ hrs3 hpm hl).mono ?_
     rintro e w5 ⟨rfl, hrs5, hb5⟩
     rw [HS.out] at hrs5 ⊢
     simp only at hrs5 ⊢
     have hbz := hb3.trans hb5
     by_cases hse : se = 0
     · have hok2 := hok hse
       have c1 : (0 : Int) ≤ (sn : Int) := by omega
       subst hse
       obtain ⟨B, hB⟩ : ∃ B : Int, B = (sn : Int) := ⟨_, rfl⟩
       rw [← hB]
       have c2 : 56320 ≤ B := by omega
       have c3 : B ≤ 57343 := by omega
       have HB := Lib.hid hB
       have HOK := Lib.hid hok2
       clear hB hok hok2 c1
       obtain ⟨q, hq⟩ : ∃ q, q = 65536 + (n - 55296) * 1024 + (sn - 56320) := ⟨_, rfl⟩
       have hA' : 65536 + (A - 55296) * 1024 + B - 56320 = (q : Int) := by
        have := HA.out; have := HB.out; have := HOK.out; have := HSUR.out; omega
       have hqb : q ≤ 1114111 := by have := HOK.out; have := HSUR.out; omega
       have HQ := Lib.hid hq
       have HA2 := Lib.hid hA'
       have HQB := Lib.hid hqb
       clear hq hA' hqb
       go_wp2_with fail
       rw [HA2.out]
       refine (isSign_any q _ (by have := HQB.out; omega)).mono ?_
       rintro e w' ⟨rfl, rfl⟩
       have hv0 : unitR t p = unitF q (m + sm) := by
        rw [HU.out, if_neg (by simp), if_pos HSUR.out, if_neg (by rw [HS.out]; simp), HS.out, HQ.out]
       cases hsb : signB q
       · have hv : unitR t p = (4, m + sm, []) := by rw [hv0, unitF, hsb]; rfl
         have HV := Lib.hid hv
         have HSB := Lib.hid hsb
         clear hv hsb hv0
         go_wp2_with fail
         go_ret
         exact ⟨by rw [HV.out]; rfl, by rw [HV.out, List.append_nil, ← Nat.add_assoc]; exact hrs5, hbz⟩
       have hv : unitR t p = (0, m + sm, sb q) := by rw [hv0, unitF, hsb]; rfl
       have HV := Lib.hid hv
       have HSB := Lib.hid hsb
       clear hv hsb hv0
       obtain ⟨v, hc2, hov⟩ := hrs5.c2
       have hf2 := hrs5.fr 2
       have hbw := hrs5.lt
       have H3 := Lib.hid hrs5
       clear hrs5
       go_wp2_with fail
       refine (appendSign_any v o q _ (b + 1) hov hbw ho HQB.out).mono ?_
       rintro e w4 ⟨v4, rfl, hov4, hg4⟩
       obtain ⟨a4, n4, cap4, rfl⟩ := hov4.form
       obtain ⟨hc4, hf4⟩ := H3.out.still hc2 hg4
       have hb4 := hbz.grown hg4 (by have := hbz.size; omega) (fun k e => by have := hov.base k e; omega)
       go_wp2_with fail
       go_ret
       exact ⟨by rw [HV.out]; rfl, by rw [HV.out, ← Nat.add_assoc]; exact H3.out.setOut hc2 hg4 hov4, Below.setCell (p := ⟨b, 2, none⟩) hb4 (Nat.le_refl b) _⟩
     have n0 : ((se : Int) != 0) = true := by rw [bne_iff_ne]; omega
     have hv : unitR t p = (se, m + sm, []) := by rw [HU.out]; simp [HSUR.out, HS.out, hse]
     have HV := Lib.hid hv
     clear hv hse hok
     go_wp2_with fail
     go_ret
     exact ⟨by rw [HV.out]; rfl, by rw [HV.out, List.append_nil, ← Nat.add_assoc]; exact hrs5, hbz⟩
   have HSUR := Lib.hid hsur
   by_cases hlo : 55296 ≤ n
   · have n1 : 55296 ≤ A := by omega
     have n2 : ¬ A < 56320 := by omega
     have HA := Lib.hid hA
     have HN := Lib.hid hn
     clear hA hn hlo hsur
     go_wp2_with fail
     rw [HA.out]
     refine (isSign_any n _ (by have := HN.out; omega)).mono ?_
     rintro e w' ⟨rfl, rfl⟩
     rw [← HA.out]
     cases hsb : signB n
     · have hv : unitR t p = (4, m, []) := by rw [HU.out]; simp [HSUR.out, unitF, hsb]
       have HV := Lib.hid hv
       have HSB := Lib.hid hsb
       clear hv hsb
       go_wp2_with fail
       go_ret
       exact ⟨by rw [HV.out]; rfl, by rw [HV.out, List.append_nil]; exact hrs3, hb3⟩
     have hv : unitR t p = (0, m, sb n) := by rw [HU.out]; simp [HSUR.out, unitF, hsb]
     have HV := Lib.hid hv
     have HSB := Lib.hid hsb
     clear hv hsb
     obtain ⟨v, hc2, hov⟩ := hrs3.c2
     have hf2 := hrs3.fr 2
     have hbw := hrs3.lt
     have H3 := Lib.hid hrs3
     clear hrs3
     go_wp2_with fail
     rw [HA.out]
     refine (appendSign_any v o n _ (b + 1) hov hbw ho (by have := HN.out; omega)).mono ?_
     rintro e w4 ⟨v4, rfl, hov4, hg4⟩
     obtain ⟨a4, n4, cap4, rfl⟩ := hov4.form
     obtain ⟨hc4, hf4⟩ := H3.out.still hc2 hg4
     have hb4 := hb3.grown hg4 (by have := hb3.size; omega) (fun k e => by have := hov.base k e; omega)
     go_wp2_with fail
     go_ret
     exact ⟨by rw [HV.out]; rfl, by rw [HV.out]; exact H3.out.setOut hc2 hg4 hov4, Below.setCell (p := ⟨b, 2, none⟩) hb4 (Nat.le_refl b) _⟩
   have n1 : ¬ 55296 ≤ A := by omega
   have HA := Lib.hid hA
   have HN := Lib.hid hn
   clear hA hn hlo hsur
   go_wp2_with fail
   rw [HA.out]
   refine (isSign_any n _ (by have := HN.out; omega)).mono ?_
   rintro e w' ⟨rfl, rfl⟩
   rw [← HA.out]
   cases hsb : signB n
   · have hv : unitR t p = (4, m, []) := by rw [HU.out]; simp [HSUR.out, unitF, hsb]
     have HV := Lib.hid hv
     have HSB := Lib.hid hsb
     clear hv hsb
     go_wp2_with fail
     go_ret
     exact ⟨by rw [HV.out]; rfl, by rw [HV.out, List.append_nil]; exact hrs3, hb3⟩
   have hv : unitR t p = (0, m, sb n) := by rw [HU.out]; simp [HSUR.out, unitF, hsb]
   have HV := Lib.hid hv
   have HSB := Lib.hid hsb
   clear hv hsb
   obtain ⟨v, hc2, hov⟩ := hrs3.c2
   have hf2 := hrs3.fr 2
   have hbw := hrs3.lt
   have H3 := Lib.hid hrs3
   clear hrs3
   go_wp2_with fail
   rw [HA.out]
   refine (appendSign_any v o n _ (b + 1) hov hbw ho (by have := HN.out; omega)).mono ?_
   rintro e w4 ⟨v4, rfl, hov4, hg4⟩
   obtain ⟨a4, n4, cap4, rfl⟩ := hov4.form
   obtain ⟨hc4, hf4⟩ := H3.out.still hc2 hg4
   have hb4 := hb3.grown hg4 (by have := hb3.size; omega) (fun k e => by have := hov.base k e; omega)
   go_wp2_with fail
   go_ret
   exact ⟨by rw [HV.out]; rfl, by rw [HV.out]; exact H3.out.setOut hc2 hg4 hov4, Below.setCell (p := ⟨b, 2, none⟩) hb4 (Nat.le_refl b) _⟩
 have n0 : ((er : Int) != 0) = true := by rw [bne_iff_ne]; omega
 have hv : unitR t p = (er, m, []) := by rw [HU.out]; simp [he]
 have HV := Lib.hid hv
 clear hv he
 go_wp2_with fail
 go_ret
 exact ⟨by rw [HV.out]; rfl, by rw [HV.out, List.append_nil]; exact hrs3, hb3⟩
def escR (t : List UInt8) (p : Nat) : Nat × Nat × List UInt8 :=
 match t[p]? with
 | none => (2, 0, [])
 | some c => if c = 117 then ((unitR t (p + 1)).1, (unitR t (p + 1)).2.1 + 1, (unitR t (p + 1)).2.2)
   else if (meB c).2 = true then (0, 1, [(meB c).1]) else (4, 1, [])
set_option maxHeartbeats 1600000 in
theorem escape_any (t o : List UInt8) (b p : Nat) (w : World) (h : RS w b t p o) (hp : p ≤ t.length) (hl : t.length ≤ 140737488355328) (ho : o.length ≤ 70368744177664) :
 Calls Tryz.prog 165 #[.pointer (some ⟨b, 0, none⟩)] w fun e w' =>
  e = .returned (.int .i64 ((escR t p).1 : Int)) ∧ RS w' b t (p + (escR t p).2.1) (o ++ (escR t p).2.2) ∧ Below b w w' := by
 have h0 := h.c0
 have h1 := h.c1
 have hf := h.fr 1
 have hbw := h.lt
 have HRS := Lib.hid h
 clear h
 by_cases hlt : p < t.length
 · have n1 : ((p : Int) == (t.length : Int)) = false := by rw [beq_eq_false_iff_ne]; omega
   have n2 : (p : Int) < (t.length : Int) := by omega
   have n3 : (0 : Int) ≤ (p : Int) := by omega
   obtain ⟨d, hd⟩ : ∃ d, d = t[p] := ⟨_, rfl⟩
   have hgd : (ByteArray.mk t.toArray)[p]'(by simpa [ByteArray.size] using hlt) = d := hd.symm
   have hd' : t[p]? = some d := by rw [hd]; exact List.getElem?_eq_getElem hlt
   have HE := Lib.hid (show escR t p = (match some d with | none => (2, 0, []) | some c => if c = 117 then ((unitR t (p + 1)).1, (unitR t (p + 1)).2.1 + 1, (unitR t (p + 1)).2.2) else if (meB c).2 = true then (0, 1, [(meB c).1]) else (4, 1, [])) by rw [escR, hd'])
   clear hd hd'
   by_cases hu : d = 117
   · have n4 : ((d.toNat : Int) == 117) = true := by rw [hu]; rfl
     have HU := Lib.hid hu
     clear hu
     go_enter Tryz.func165, Tryz.ntmps165
     go_wp2_with fail
     go_quiet (fail)
     have hrs5 := HRS.out.drewN nq
     have hb5 := Below.drewsN (Below.refl b w) nq
     generalize w.drewN nq = w5 at hrs5 hb5 ⊢
     have h05 := hrs5.c0
     have h15 := hrs5.c1
     have hf5 := hrs5.fr 1
     have hbw5 := hrs5.lt
     have HRS5 := Lib.hid hrs5
     clear hrs5 h0 h1 hf hbw
     go_wp2_with fail
     go_quiet (fail)
     go_wp2_with fail
     have hrs6 := (HRS5.out.drewN nq).setAt (p + 1) ((p : Int) + 1) (by omega)
     have hb6 := Below.setCell (p := ⟨b, 1, none⟩) (Below.drewsN hb5 nq) (Nat.le_refl b) (.int .i64 ((p : Int) + 1))
     refine (unit_any t o b (p + 1) _ hrs6 (by omega) hl ho).mono ?_
     rintro e w7 ⟨rfl, hrs7, hb7⟩
     go_wp2_with fail
     go_ret
     have hv : escR t p = ((unitR t (p + 1)).1, (unitR t (p + 1)).2.1 + 1, (unitR t (p + 1)).2.2) := by rw [HE.out]; exact if_pos HU.out
     rw [hv]
     refine ⟨rfl, ?_, hb6.trans hb7⟩
     show RS w7 b t (p + ((unitR t (p + 1)).2.1 + 1)) _
     rw [show p + ((unitR t (p + 1)).2.1 + 1) = p + 1 + (unitR t (p + 1)).2.1 by omega]
     exact hrs7
   have n4 : ((d.toNat : Int) == 117) = false := by
    rw [beq_eq_false_iff_ne]; intro h; exact hu (UInt8.toNat_inj.1 (by simpa using (by omega : d.toNat = 117)))
   have HU := Lib.hid hu
   clear hu
   go_enter Tryz.func165, Tryz.ntmps165
   go_wp2_with fail
   go_quiet (fail)
   have hrs5 := HRS.out.drewN nq
   have hb5 := Below.drewsN (Below.refl b w) nq
   generalize w.drewN nq = w5 at hrs5 hb5 ⊢
   have h05 := hrs5.c0
   have h15 := hrs5.c1
   have hf5 := hrs5.fr 1
   have hbw5 := hrs5.lt
   have HRS5 := Lib.hid hrs5
   clear hrs5 h0 h1 hf hbw
   go_wp2_with fail
   go_quiet (fail)
   go_wp2_with fail
   have hrs6 := (HRS5.out.drewN nq).setAt (p + 1) ((p : Int) + 1) (by omega)
   have hb6 := Below.setCell (p := ⟨b, 1, none⟩) (Below.drewsN hb5 nq) (Nat.le_refl b) (.int .i64 ((p : Int) + 1))
   refine (meant_any d _).mono ?_
   rintro e w7 ⟨rfl, rfl⟩
   obtain ⟨x, ok, hx⟩ : ∃ x ok, meB d = (x, ok) := ⟨_, _, rfl⟩
   rw [meE, hx]
   simp only
   have HX := Lib.hid hx
   clear hx
   generalize ((w5.drewN nq).setCell ⟨b, 1, none⟩ (.int .i64 ((p : Int) + 1))) = w8 at hrs6 hb6 ⊢
   cases ok
   · go_wp2_with fail
     go_ret
     have hv : escR t p = (4, 1, []) := by rw [HE.out]; exact (if_neg HU.out).trans (if_neg (by rw [HX.out]; simp))
     exact ⟨by rw [hv]; rfl, by rw [hv, List.append_nil]; exact hrs6, hb6⟩
   obtain ⟨v, hc2, hov⟩ := hrs6.c2
   have hf2 := hrs6.fr 2
   have hbw8 := hrs6.lt
   have H6 := Lib.hid hrs6
   clear hrs6
   go_wp2_with (at_builtin; refine hold ?_)
   intro _
   refine bt.append1 rfl _ _ rfl (b + 1) v o x _ rfl hov rfl rfl (by omega) hbw8 ?_
   intro v4 w4 hov4 hg4
   obtain ⟨a4, n5, cap4, rfl⟩ := hov4.form
   obtain ⟨hc4, hf4⟩ := H6.out.still hc2 hg4
   have hb4 := hb6.grown hg4 (by have := hb6.size; omega) (fun k e => by have := hov.base k e; omega)
   go_wp2_with fail
   go_ret
   have hv : escR t p = (0, 1, [x]) := by rw [HE.out]; exact (if_neg HU.out).trans ((if_pos (by rw [HX.out])).trans (by rw [HX.out]))
   exact ⟨by rw [hv]; rfl, by rw [hv]; exact H6.out.setOut hc2 hg4 hov4, Below.setCell (p := ⟨b, 2, none⟩) hb4 (Nat.le_refl b) _⟩
 obtain rfl : p = t.length := by omega
 have n1 : ((t.length : Int) == (t.length : Int)) = true := beq_self_eq_true _
 have hw : escR t t.length = (2, 0, []) := by rw [escR, List.getElem?_eq_none (Nat.le_refl _)]
 rw [hw]
 clear hw
 go_enter Tryz.func165, Tryz.ntmps165
 go_wp2_with fail
 go_quiet (fail)
 go_wp2_with fail
 go_ret
 exact ⟨rfl, by rw [List.append_nil]; exact HRS.out.drewN _, Below.drewsN (Below.refl _ _) _⟩
theorem strCells_map (l : List UInt8) : Lib.strCells ⟨l.toArray⟩ = l.map bv := by
 simp [Lib.strCells, bv]
theorem sub_str (t : List UInt8) (p z n : Nat) (hn : n = p + z) : Value.string ((ByteArray.mk t.toArray).extract p n) = str ((t.drop p).take z) := by
 subst hn
 unfold str
 congr 1
 apply ByteArray.ext
 simp [ByteArray.data_extract, List.extract_toArray]
section
variable {P : Program} {T U E : TypeId} {ops : Array Oper} {rest : List Oper} {o : Oper} {a : Act} {Q : Exit → Act → World → Prop} {w : World}
theorem BT.appendStr (B : BT P T E) (hU : P.underlying U = some .string) (hgd : o.guard = none) (s x : Operand) (ho : o.op = .call { callee := .builtin .append, args := #[s, x], argTypes := #[T, U] })
 (base : Nat) (v : Value) (l m : List UInt8) (hown : Own E w base v l) (hs : a.eval s = v) (hx : a.eval x = str m) (hlen : l.length + m.length ≤ 140737488355328) (hbase : base ≤ w.heap.size)
 (h : ∀ v' w', Own E w' base v' (l ++ m) → w.grownBy w' v.ownBlock → wpList P ops Q rest (a.put o.dst v') w') :
 wpList P ops Q (o :: rest) a w := by
 obtain ⟨i, hi, h1, h2, h3⟩ := info_parts B.info
 refine Lib.wpList_append_own_string w hgd s x T U ho base E i B.t hU hi h1 h2 h3 v l.length (l.map bv) hs hown ⟨m.toArray⟩ hx (by unfold maxLen; simp [ByteArray.size]; omega) (by simpa [ByteArray.size] using hlen) hbase ?_
 intro v' w' h1 h2 _
 refine h v' w' ?_ h2
 unfold Own
 rw [strCells_map] at h1
 simpa [ByteArray.size] using h1
theorem BT.stepAppendStr {K : Act → World → Prop} {N : Prop} (B : BT P T E) (hU : P.underlying U = some .string) (hgd : o.guard = none) (s x : Operand) (ho : o.op = .call { callee := .builtin .append, args := #[s, x], argTypes := #[T, U] })
 (base : Nat) (v : Value) (l m : List UInt8) (hs : a.eval s = v) (hown : Own E w base v l) (hx : a.eval x = str m) (hlen : l.length + m.length ≤ 140737488355328) (hbase : base ≤ w.heap.size)
 (h : ∀ ad n cp w', Own E w' base (.slice ad n cp) (l ++ m) → w.grownBy w' v.ownBlock → K (a.put o.dst (.slice ad n cp)) w') :
 if Region.wanted o (yielded ops a.tmps) = true then Oper.wp P o a w K Q else N := by
 have hw : Region.wanted o (yielded ops a.tmps) = true := by simp [Region.wanted, hgd]
 rw [if_pos hw]
 obtain ⟨i, hi, h1, h2, h3⟩ := info_parts B.info
 obtain ⟨v', w', hr, h4, h5, _⟩ := Lib.run_append_own_string (P := P) w base T U o.type E i B.t hU hi h1 h2 h3 v l.length (l.map bv) hown ⟨m.toArray⟩ (by unfold maxLen; simp [ByteArray.size]; omega) (by simpa [ByteArray.size] using hlen) hbase
 unfold Oper.wp execOp
 simp only [ho, resolve, invoke, builtin, Sem.run_bind, Sem.run_pure, Result.andThen_ok, List.map_toArray, List.map_cons, List.map_nil, hs, hx, hr]
 have ho : Own E w' base v' (l ++ m) := by
  unfold Own
  rw [strCells_map] at h4
  simpa [ByteArray.size] using h4
 obtain ⟨ad, n, cp, rfl⟩ := ho.form
 exact h ad n cp w' ho h5
end
theorem grown_undrew {w w' : World} {r : Option Nat} (h : w.drew.grownBy w' r) : w.grownBy w' r := ⟨h.os, h.tape, h.output, h.size, h.block⟩
theorem Own.drew1 {E : TypeId} {w : World} {base : Nat} {v : Value} {l : List UInt8} (h : Own E w base v l) : Own E w.drew base v l := h
def stepR (t : List UInt8) (p : Nat) : Bool × Nat × Nat × List UInt8 :=
 match t[p]? with
 | none => (false, 2, 0, [])
 | some c => if c = 34 then (true, 0, 1, [])
   else if c = 92 then (false, (escR t (p + 1)).1, (escR t (p + 1)).2.1 + 1, (escR t (p + 1)).2.2)
   else if (sgn (t.drop p)).2 = 0 ∨ (sgn (t.drop p)).1 < 32 then (false, 4, 0, [])
   else (false, 0, (sgn (t.drop p)).2, (t.drop p).take (sgn (t.drop p)).2)
set_option maxRecDepth 100000 in
set_option maxHeartbeats 3200000 in
theorem step_any (t o : List UInt8) (b p : Nat) (w : World) (h : RS w b t p o) (hp : p ≤ t.length) (hl : t.length ≤ 70368744177664) (ho : o.length ≤ 70368744177664) :
 Calls Tryz.prog 146 #[.pointer (some ⟨b, 0, none⟩)] w fun e w' =>
  e = .returned (.tuple #[.bool (stepR t p).1, .int .i64 ((stepR t p).2.1 : Int)]) ∧ RS w' b t (p + (stepR t p).2.2.1) (o ++ (stepR t p).2.2.2) ∧ Below b w w' := by
 have h0 := h.c0
 have h1 := h.c1
 have hf := h.fr 1
 have hbw := h.lt
 have HRS := Lib.hid h
 clear h
 by_cases hlt : p < t.length
 · have n1 : ((p : Int) == (t.length : Int)) = false := by rw [beq_eq_false_iff_ne]; omega
   have n2 : (p : Int) < (t.length : Int) := by omega
   have n3 : (0 : Int) ≤ (p : Int) := by omega
   obtain ⟨d, hd⟩ : ∃ d, d = t[p] := ⟨_, rfl⟩
   have hgd : (ByteArray.mk t.toArray)[p]'(by simpa [ByteArray.size] using hlt) = d := hd.symm
   have hd' : t[p]? = some d := by rw [hd]; exact List.getElem?_eq_getElem hlt
   have HE := Lib.hid (show stepR t p = (if d = 34 then (true, 0, 1, [])
    else if d = 92 then (false, (escR t (p + 1)).1, (escR t (p + 1)).2.1 + 1, (escR t (p + 1)).2.2)
    else if (sgn (t.drop p)).2 = 0 ∨ (sgn (t.drop p)).1 < 32 then (false, 4, 0, [])
    else (false, 0, (sgn (t.drop p)).2, (t.drop p).take (sgn (t.drop p)).2)) by rw [stepR, hd'])
   clear hd hd'
   go_enter Tryz.func146, Tryz.ntmps146
   go_wp2_with fail
   go_quiet (fail)
   have hrs5 := HRS.out.drewN nq
   have hb5 := Below.drewsN (Below.refl b w) nq
   generalize w.drewN nq = w5 at hrs5 hb5 ⊢
   have h05 := hrs5.c0
   have h15 := hrs5.c1
   have hf5 := hrs5.fr 1
   have hbw5 := hrs5.lt
   have HRS5 := Lib.hid hrs5
   clear hrs5 h0 h1 hf hbw
   go_wp2_with fail
   go_quiet (fail)
   have hrs6 := HRS5.out.drewN nq
   have hb6 := Below.drewsN hb5 nq
   generalize w5.drewN nq = w6 at hrs6 hb6 ⊢
   have h06 := hrs6.c0
   have h16 := hrs6.c1
   have hf6 := hrs6.fr 1
   have hbw6 := hrs6.lt
   have HRS6 := Lib.hid hrs6
   clear hrs6 h05 h15 hf5 hbw5 HRS5
   by_cases hq : d = 34
   · have m1 : ((d.toNat : Int) == 34) = true := by rw [hq]; rfl
     have hv : stepR t p = (true, 0, 1, []) := by rw [HE.out, if_pos hq]
     have HV := Lib.hid hv
     clear hv hq
     go_wp2_with fail
     go_ret2
     exact ⟨by rw [HV.out]; rfl, by rw [HV.out, List.append_nil]; exact HRS6.out.setAt (p + 1) _ (by omega), Below.setCell (p := ⟨b, 1, none⟩) hb6 (Nat.le_refl b) _⟩
   have m1 : ((d.toNat : Int) == 34) = false := by
    rw [beq_eq_false_iff_ne]; intro h; exact hq (UInt8.toNat_inj.1 (by simpa using (by omega : d.toNat = 34)))
   by_cases hs : d = 92
   · have m2 : ((d.toNat : Int) == 92) = true := by rw [hs]; rfl
     have hv : stepR t p = (false, (escR t (p + 1)).1, (escR t (p + 1)).2.1 + 1, (escR t (p + 1)).2.2) := by rw [HE.out, if_neg hq, if_pos hs]
     have HV := Lib.hid hv
     clear hv hq hs
     have hrs7 := (HRS6.out).setAt (p + 1) ((p : Int) + 1) (by omega)
     have hb7 := Below.setCell (p := ⟨b, 1, none⟩) hb6 (Nat.le_refl b) (.int .i64 ((p : Int) + 1))
     go_wp2_with fail
     refine (escape_any t o b (p + 1) _ hrs7 (by omega) (by omega) ho).mono ?_
     rintro e w8 ⟨rfl, hrs8, hb8⟩
     go_wp2_with fail
     go_ret2
     refine ⟨by rw [HV.out]; rfl, ?_, hb7.trans hb8⟩
     rw [HV.out]
     show RS w8 b t (p + ((escR t (p + 1)).2.1 + 1)) _
     rw [show p + ((escR t (p + 1)).2.1 + 1) = p + 1 + (escR t (p + 1)).2.1 by omega]
     exact hrs8
   have m2 : ((d.toNat : Int) == 92) = false := by
    rw [beq_eq_false_iff_ne]; intro h; exact hs (UInt8.toNat_inj.1 (by simpa using (by omega : d.toNat = 92)))
   have hle := sgn_le (t.drop p)
   rw [List.length_drop] at hle
   obtain ⟨c, z, hcz⟩ : ∃ c z, sgn (t.drop p) = (c, z) := ⟨_, _, rfl⟩
   have hE2 := HE.out
   rw [if_neg hq, if_neg hs, hcz] at hE2
   rw [hcz] at hle
   simp only at hle hE2
   have HE2 := Lib.hid hE2
   have hsa : ∀ W, Calls Tryz.prog 166 #[str t, .int .i64 (p : Int)] W fun e w' => e = .returned (.tuple #[.int .i64 (c : Int), .int .i64 (z : Int)]) ∧ w' = W := fun W => by
    have := signAt_any t p W hlt (by omega)
    rw [hcz] at this
    exact this
   have HSA := Lib.hid hsa
   clear hq hs hcz hE2 hsa
   obtain ⟨C, hC⟩ : ∃ C : Int, C = (c : Int) := ⟨_, rfl⟩
   have HC := Lib.hid hC
   by_cases hz : z = 0
   · have m3 : ((z : Int) == 0) = true := by rw [beq_iff_eq]; omega
     have hv : stepR t p = (false, 4, 0, []) := by rw [HE2.out, if_pos (.inl hz)]
     have HV := Lib.hid hv
     clear hv hz hC
     go_wp2_with fail
     go_quiet ((go_at_call 166; exact Calls.quiet_of_same (HSA.out _)))
     go_wp2_with fail
     go_ret2
     exact ⟨by rw [HV.out]; rfl, by rw [HV.out, List.append_nil]; exact HRS6.out.drewN _, Below.drewsN hb6 _⟩
   have m3 : ((z : Int) == 0) = false := by rw [beq_eq_false_iff_ne]; omega
   by_cases hc : c < 32
   · have m4 : (c : Int) < 32 := by omega
     have hv : stepR t p = (false, 4, 0, []) := by rw [HE2.out, if_pos (.inr hc)]
     have HV := Lib.hid hv
     clear hv hz hC
     go_wp2_with fail
     go_quiet ((go_at_call 166; exact Calls.quiet_of_same (HSA.out _)))
     go_wp2_with fail
     go_ret2
     exact ⟨by rw [HV.out]; rfl, by rw [HV.out, List.append_nil]; exact HRS6.out.drewN _, Below.drewsN hb6 _⟩
   have m4 : ¬ (c : Int) < 32 := by omega
   have hv : stepR t p = (false, 0, z, (t.drop p).take z) := by rw [HE2.out, if_neg (by rintro (h | h) <;> contradiction)]
   have HV := Lib.hid hv
   clear hv hz hC hc
   have m9 : z ≤ t.length := by omega
   have m5 : IntKind.i64.wrap ((p : Int) + (z : Int)) = (p : Int) + (z : Int) := IntWalk.i64_in _ ⟨by omega, by omega⟩
   have m6 : (p : Int) + (z : Int) ≤ (t.length : Int) := by omega
   have m7 : (p : Int) ≤ (p : Int) + (z : Int) := by omega
   have m8 : (0 : Int) ≤ (p : Int) + (z : Int) := by omega
   go_wp2_with fail
   go_quiet ((go_at_call 166; exact Calls.quiet_of_same (HSA.out _)))
   have hrs7 := HRS6.out.drewN nq
   have hb7 := Below.drewsN hb6 nq
   generalize w6.drewN nq = w7 at hrs7 hb7 ⊢
   have h07 := hrs7.c0
   have h17 := hrs7.c1
   obtain ⟨v, hc2, hov⟩ := hrs7.c2
   have hf7 := hrs7.fr 1
   have hf72 := hrs7.fr 2
   have hbw7 := hrs7.lt
   have HRS7 := Lib.hid hrs7
   clear hrs7 h06 h16 hf6 hbw6 HRS6
   go_wp2_with fail
   have htk : ((t.drop p).take z).length = z := by simp; omega
   have HTK := Lib.hid htk
   clear htk
   have hlt2 : o.length + ((t.drop p).take z).length ≤ 140737488355328 := by rw [HTK.out]; clear m5; omega
   have hnat : ((p : Int) + (z : Int)).toNat = p + z := by omega
   have hsub := sub_str t p z _ hnat
   have HSUB := Lib.hid hsub
   have hhs : b + 1 ≤ w7.drew.heap.size := hbw7
   clear hsub hnat
   go_region_law ((
    refine bt.stepAppendStr Tryz.underlying9 (by rfl) (.tmp 67) (.tmp 82) (by rfl) (b + 1) v o ((t.drop p).take z) (by rfl) hov.drew1 HSUB.out hlt2 hhs ?_
    intro ad10 n10 cp10 w10 ho10 hg10
    have hc10 := (HRS7.out.still hc2 (grown_undrew hg10)).1
    have hf10 := (HRS7.out.still hc2 (grown_undrew hg10)).2))
   all_goals
    have hb10 := hb7.grown (grown_undrew hg10) (Nat.le_of_lt hbw7) (fun k e => by have := hov.base k e; omega)
    have hrs10 := HRS7.out.setOut hc2 (grown_undrew hg10) ho10
    have hb11 := Below.setCell (p := ⟨b, 2, none⟩) hb10 (Nat.le_refl b) (.slice ad10 n10 cp10)
    clear ho10 hg10
    generalize w10.setCell ⟨b, 2, none⟩ (.slice ad10 n10 cp10) = w11 at hrs10 hb11 ⊢
    have h110 := hrs10.c1
    have hf110 := hrs10.fr 1
    have H10 := Lib.hid hrs10
    clear hrs10
    go_wp2_with fail
    go_ret2
    exact ⟨by rw [HV.out]; rfl, by rw [HV.out]; exact H10.out.setAt (p + z) _ (by omega), Below.setCell (p := ⟨b, 1, none⟩) hb11 (Nat.le_refl b) _⟩
 obtain rfl : p = t.length := by omega
 have n1 : ((t.length : Int) == (t.length : Int)) = true := beq_self_eq_true _
 have hw : stepR t t.length = (false, 2, 0, []) := by rw [stepR, List.getElem?_eq_none (Nat.le_refl _)]
 rw [hw]
 clear hw
 go_enter Tryz.func146, Tryz.ntmps146
 go_wp2_with fail
 go_quiet (fail)
 go_wp2_with fail
 go_ret2
 exact ⟨rfl, by rw [List.append_nil]; exact HRS.out.drewN _, Below.drewsN (Below.refl _ _) _⟩
end Go.Proofs.YtegblhmcfemfgaaGreatDoor
