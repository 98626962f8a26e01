import Derived.Test.YtidlhajibjnkeaaGreatDoorQuote
/- The reader's methods by their contracts. -/
namespace Go.Proofs.YtidlhajibjnkeaaGreatDoor
open Go.RowKit

/-- The reader in block b: its text, its place, what it has read. -/
structure RS (w : World) (b : Nat) (t : List UInt8) (p : Nat) (o : List UInt8) : Prop where
  out : ∃ v T, w.heap[b]? = some (.cells #[str t, .int .i64 (p : Int), v] T (0, 0)) ∧ Own 5 w (b + 1) v o

theorem RS.lt {w : World} {b p : Nat} {t o : List UInt8} (h : RS w b t p o) : b < w.heap.size := by
  obtain ⟨v, T, h, _⟩ := h
  exact (Array.getElem?_eq_some_iff.1 h).1
theorem RS.c0 {w : World} {b p : Nat} {t o : List UInt8} (h : RS w b t p o) : w.cell? ⟨b, 0, none⟩ = some (str t) := by
  obtain ⟨v, T, h, _⟩ := h
  simp [World.cell?, h]
theorem RS.c1 {w : World} {b p : Nat} {t o : List UInt8} (h : RS w b t p o) : w.cell? ⟨b, 1, none⟩ = some (.int .i64 (p : Int)) := by
  obtain ⟨v, T, h, _⟩ := h
  simp [World.cell?, h]
theorem RS.c2 {w : World} {b p : Nat} {t o : List UInt8} (h : RS w b t p o) : ∃ v, w.cell? ⟨b, 2, none⟩ = some v ∧ Own 5 w (b + 1) v o := by
  obtain ⟨v, T, h, ho⟩ := h
  exact ⟨v, by simp [World.cell?, h], ho⟩
theorem RS.fr {w : World} {b p : Nat} {t o : List UInt8} (h : RS w b t p o) (j : Nat) : w.frozen? ⟨b, j, none⟩ = false := by
  obtain ⟨v, T, h, _⟩ := h
  exact frozen_of_row w b j _ T h
theorem RS.drewN {w : World} {b p : Nat} {t o : List UInt8} (h : RS w b t p o) (n : Nat) : RS (w.drewN n) b t p o := by
  obtain ⟨v, T, h, ho⟩ := h
  exact ⟨v, T, by simpa using h, ho⟩
theorem three_setCell {w : World} {b : Nat} {x y z u : Value} {t : TypeId} (h : w.heap[b]? = some (.cells #[x, y, z] t (0, 0))) :
    (w.setCell ⟨b, 1, none⟩ u).heap[b]? = some (.cells #[x, u, z] t (0, 0)) ∧ (w.setCell ⟨b, 2, none⟩ u).heap[b]? = some (.cells #[x, y, u] t (0, 0)) := by
  have hlt := (Array.getElem?_eq_some_iff.1 h).1
  have h' : w.heap[b] = .cells #[x, y, z] t (0, 0) := by simpa [Array.getElem?_eq_getElem hlt] using h
  constructor
  · show (w.heap.modify b _)[b]? = _
    rw [Array.getElem?_eq_getElem (by simpa using hlt), Array.getElem_modify_self, h']
    rfl
  · show (w.heap.modify b _)[b]? = _
    rw [Array.getElem?_eq_getElem (by simpa using hlt), Array.getElem_modify_self, h']
    rfl
theorem RS.setAt {w : World} {b p : Nat} {t o : List UInt8} (h : RS w b t p o) (q : Nat) (n : Int) (hn : n = (q : Int)) : RS (w.setCell ⟨b, 1, none⟩ (.int .i64 n)) b t q o := by
  obtain ⟨v, T, h, ho⟩ := h
  subst hn
  exact ⟨v, T, (three_setCell h).1, ownsRow_setCell_below ho (Nat.lt_succ_self b) _⟩
/-- What was appended to the reader's bytes is stored. -/
theorem RS.setOut {w w' : World} {b p : Nat} {t o o' : List UInt8} {v v' : Value} (h : RS w b t p o) (hc : w.cell? ⟨b, 2, none⟩ = some v) (hg : w.grownBy w' v.ownBlock) (ho' : Own 5 w' (b + 1) v' o') : RS (w'.setCell ⟨b, 2, none⟩ v') b t p o' := by
  obtain ⟨v0, T, h, ho⟩ := h
  have e : v0 = v := by simpa [World.cell?, h] using hc
  subst e
  have hb : w'.heap[b]? = some (.cells #[str t, .int .i64 (p : Int), v0] T (0, 0)) := by
    rw [hg.block b (Array.getElem?_eq_some_iff.1 h).1 (fun e => by have := ho.base b e.symm; omega)]
    exact h
  exact ⟨v', T, (three_setCell hb).2, ownsRow_setCell_below ho' (Nat.lt_succ_self b) _⟩
theorem RS.setBelow {w w' : World} {b p : Nat} {t o o' : List UInt8} {v' : Value} (h : RS w b t p o) (hb : Below (b + 1) w w') (ho' : Own 5 w' (b + 1) v' o') : RS (w'.setCell ⟨b, 2, none⟩ v') b t p o' := by
  obtain ⟨v0, T, h, ho⟩ := h
  have hb : w'.heap[b]? = some (.cells #[str t, .int .i64 (p : Int), v0] T (0, 0)) := by
    rw [hb.block b (Nat.lt_succ_self b)]
    exact h
  exact ⟨v', T, (three_setCell hb).2, ownsRow_setCell_below ho' (Nat.lt_succ_self b) _⟩

/-- Nothing but block b has turned; new blocks may stand behind. -/
def OnlyT (b : Nat) (w w' : World) : Prop := w.heap.size ≤ w'.heap.size ∧ ∀ k, k < w.heap.size → k ≠ b → w'.heap[k]? = w.heap[k]?
theorem OnlyT.drewN (b : Nat) (w : World) (n : Nat) : OnlyT b w (w.drewN n) := ⟨by simp, fun _ _ _ => by simp⟩
theorem OnlyT.setCell {b : Nat} {w w' : World} (h : OnlyT b w w') (j : Nat) (u : Value) : OnlyT b w (w'.setCell ⟨b, j, none⟩ u) :=
  ⟨by simpa [World.setCell] using h.1, fun k hk hne => by rw [Below.heap_setCell _ _ _ _ hne]; exact h.2 k hk hne⟩
theorem OnlyT.trans {b : Nat} {w w' w2 : World} (h : OnlyT b w w') (k : OnlyT b w' w2) : OnlyT b w w2 :=
  ⟨Nat.le_trans h.1 k.1, fun i hi hne => (k.2 i (Nat.lt_of_lt_of_le hi h.1) hne).trans (h.2 i hi hne)⟩
theorem OnlyT.cell {b : Nat} {w w' : World} (h : OnlyT b w w') {g j : Nat} {x : Value} (hc : w.cell? ⟨g, j, none⟩ = some x) (hne : g ≠ b) : w'.cell? ⟨g, j, none⟩ = some x := by
  have hlt := World.block_lt_of_cell? w _ hc
  have := h.2 g hlt hne
  unfold World.cell? at hc ⊢
  simpa [this] using hc
theorem RS.alloc {w : World} {b p : Nat} {t o : List UInt8} (h : RS w b t p o) (x : Obj) : RS (w.alloc x) b t p o := by
  have hlt := h.lt
  obtain ⟨v, T, h, ho⟩ := h
  refine ⟨v, T, ?_, ho.alloc x⟩
  rw [← h]
  exact (below_alloc w x).block b hlt

def wantN (t : List UInt8) (p : Nat) (c : UInt8) : Nat := if p < t.length then (if t[p]? = some c then 0 else 4) else 2

theorem want_any (t o : List UInt8) (b p : Nat) (c : UInt8) (w : World) (h : RS w b t p o) (hp : p ≤ t.length) (hl : t.length ≤ 140737488355328) :
    Calls Tryz.prog 84 #[.pointer (some ⟨b, 0, none⟩), .int .u8 (c.toNat : Int)] w fun e w' =>
      e = .returned (.int .i64 (wantN t p c : Int)) ∧ RS w' b t (if wantN t p c = 0 then p + 1 else p) o ∧ Below b w w' ∧ OnlyT b w w' := by
  have h0 := h.c0
  have h1 := h.c1
  have hf := h.fr 1
  have hbw := h.lt
  have HRS := Lib.hid h
  clear h
  by_cases hlt : p < t.length
  · have n1 : ((p : Int) == (t.length : Int)) = false := by rw [beq_eq_false_iff_ne]; omega
    have n2 : (p : Int) < (t.length : Int) := by omega
    have n3 : (0 : Int) ≤ (p : Int) := by omega
    obtain ⟨d, hd⟩ : ∃ d, d = t[p] := ⟨_, rfl⟩
    have hgd : (ByteArray.mk t.toArray)[p]'(by simpa [ByteArray.size] using hlt) = d := hd.symm
    have hd' : t[p]? = some d := by rw [hd]; exact List.getElem?_eq_getElem hlt
    have HD := Lib.hid hd'
    clear hd hd'
    by_cases hdc : d = c
    · have n4 : ((d.toNat : Int) != (c.toNat : Int)) = false := by rw [hdc, bne_self_eq_false]
      have hw : wantN t p c = 0 := by rw [wantN, if_pos hlt, HD.out, hdc, if_pos rfl]
      rw [hw]
      have HW := Lib.hid hw
      clear hw hdc
      go_enter Tryz.func84, Tryz.ntmps84
      go_wp2_with fail
      go_quiet (fail)
      go_wp2_with fail
      go_quiet (fail)
      go_wp2_with fail
      go_ret
      exact ⟨rfl, (HRS.out.drewN _).setAt (p + 1) _ (by omega), Below.setCell (p := ⟨b, 1, none⟩) (Below.drewsN (Below.refl b _) _) (Nat.le_refl b) _, (OnlyT.drewN b _ _).setCell _ _⟩
    · have n4 : ((d.toNat : Int) != (c.toNat : Int)) = true := by
        rw [bne_iff_ne]; intro h; exact hdc (UInt8.toNat_inj.1 (by omega))
      have hw : wantN t p c = 4 := by rw [wantN, if_pos hlt, HD.out, if_neg (by simpa using hdc)]
      rw [hw]
      have HW := Lib.hid hw
      clear hw hdc
      go_enter Tryz.func84, Tryz.ntmps84
      go_wp2_with fail
      go_quiet (fail)
      go_wp2_with fail
      go_quiet (fail)
      go_wp2_with fail
      go_ret
      exact ⟨rfl, HRS.out.drewN _, Below.drewsN (Below.refl _ _) _, OnlyT.drewN _ _ _⟩
  · obtain rfl : p = t.length := by omega
    have n1 : ((t.length : Int) == (t.length : Int)) = true := beq_self_eq_true _
    have hw : wantN t t.length c = 2 := by rw [wantN, if_neg hlt]
    rw [hw]
    clear hw
    go_enter Tryz.func84, Tryz.ntmps84
    go_wp2_with fail
    go_quiet (fail)
    go_wp2_with fail
    go_ret
    exact ⟨rfl, HRS.out.drewN _, Below.drewsN (Below.refl _ _) _, OnlyT.drewN _ _ _⟩
end Go.Proofs.YtidlhajibjnkeaaGreatDoor

/- text.digit and the reader's four by their contracts. -/
namespace Go.Proofs.YtidlhajibjnkeaaGreatDoor
open Go.RowKit

def refD (c : UInt8) : Int := if 48 ≤ c.toNat ∧ c.toNat ≤ 57 then (c.toNat : Int) - 48 else if 97 ≤ c.toNat ∧ c.toNat ≤ 102 then (c.toNat : Int) - 97 + 10 else if 65 ≤ c.toNat ∧ c.toNat ≤ 70 then (c.toNat : Int) - 65 + 10 else -1
def refDE (c : UInt8) : Ending := .returned (.int .i64 (refD c))

theorem tDigit_any (c : UInt8) (w : World) : Calls Tryz.prog 130 #[.int .u8 (c.toNat : Int)] w fun e w' => e = refDE c ∧ w' = w := by
  have hc := c.toNat_lt
  have key : (∃ v : Int, refDE c = .returned (.int .i64 v) ∧ (((48 : Int) ≤ (c.toNat : Int) ∧ (c.toNat : Int) ≤ 57 ∧ v = (c.toNat : Int) - 48) ∨ ((97 : Int) ≤ (c.toNat : Int) ∧ (c.toNat : Int) ≤ 102 ∧ v = (c.toNat : Int) - 97 + 10) ∨
      ((65 : Int) ≤ (c.toNat : Int) ∧ (c.toNat : Int) ≤ 70 ∧ v = (c.toNat : Int) - 65 + 10) ∨ (((c.toNat : Int) < 48 ∨ (57 < (c.toNat : Int) ∧ (c.toNat : Int) < 65) ∨ (70 < (c.toNat : Int) ∧ (c.toNat : Int) < 97) ∨ 102 < (c.toNat : Int)) ∧ v = -1))) := by
    refine ⟨refD c, rfl, ?_⟩
    unfold refD
    split
    · omega
    · split
      · omega
      · split <;> omega
  obtain ⟨v, hv, hcase⟩ := key
  have HV := Lib.hid hv
  clear hv
  rcases hcase with ⟨h1, h2, rfl⟩ | ⟨h1, h2, rfl⟩ | ⟨h1, h2, rfl⟩ | ⟨h, rfl⟩
  · go_enter Tryz.func130, Tryz.ntmps130
    go_wp2
    go_ret
    exact ⟨HV.out.symm, rfl⟩
  · have h3 : (48 : Int) ≤ (c.toNat : Int) := by omega
    have h4 : ¬ (c.toNat : Int) ≤ 57 := by omega
    go_enter Tryz.func130, Tryz.ntmps130
    go_wp2
    go_ret
    exact ⟨HV.out.symm, rfl⟩
  · have h3 : (48 : Int) ≤ (c.toNat : Int) := by omega
    have h4 : ¬ (c.toNat : Int) ≤ 57 := by omega
    have h5 : ¬ (97 : Int) ≤ (c.toNat : Int) := by omega
    go_enter Tryz.func130, Tryz.ntmps130
    go_wp2
    go_ret
    exact ⟨HV.out.symm, rfl⟩
  · rcases h with h | ⟨h1, h2⟩ | ⟨h1, h2⟩ | h
    · have h4 : ¬ (48 : Int) ≤ (c.toNat : Int) := by omega
      have h5 : ¬ (97 : Int) ≤ (c.toNat : Int) := by omega
      have h6 : ¬ (65 : Int) ≤ (c.toNat : Int) := by omega
      go_enter Tryz.func130, Tryz.ntmps130
      go_wp2
      go_ret
      exact ⟨HV.out.symm, rfl⟩
    · have h3 : (48 : Int) ≤ (c.toNat : Int) := by omega
      have h4 : ¬ (c.toNat : Int) ≤ 57 := by omega
      have h5 : ¬ (97 : Int) ≤ (c.toNat : Int) := by omega
      have h6 : ¬ (65 : Int) ≤ (c.toNat : Int) := by omega
      go_enter Tryz.func130, Tryz.ntmps130
      go_wp2
      go_ret
      exact ⟨HV.out.symm, rfl⟩
    · have h3 : (48 : Int) ≤ (c.toNat : Int) := by omega
      have h4 : ¬ (c.toNat : Int) ≤ 57 := by omega
      have h5 : ¬ (97 : Int) ≤ (c.toNat : Int) := by omega
      have h6 : (65 : Int) ≤ (c.toNat : Int) := by omega
      have h7 : ¬ (c.toNat : Int) ≤ 70 := by omega
      go_enter Tryz.func130, Tryz.ntmps130
      go_wp2
      go_ret
      exact ⟨HV.out.symm, rfl⟩
    · have h3 : (48 : Int) ≤ (c.toNat : Int) := by omega
      have h4 : ¬ (c.toNat : Int) ≤ 57 := by omega
      have h5 : (97 : Int) ≤ (c.toNat : Int) := by omega
      have h5' : ¬ (c.toNat : Int) ≤ 102 := by omega
      have h6 : (65 : Int) ≤ (c.toNat : Int) := by omega
      have h7 : ¬ (c.toNat : Int) ≤ 70 := by omega
      go_enter Tryz.func130, Tryz.ntmps130
      go_wp2
      go_ret
      exact ⟨HV.out.symm, rfl⟩
theorem tDigit_ret (c : UInt8) (w : World) : Calls Tryz.prog 130 #[.int .u8 (c.toNat : Int)] w fun e w' => e = .returned (.int .i64 (refD c)) ∧ w' = w := tDigit_any c w

theorem refD_range (c : UInt8) : -1 ≤ refD c ∧ refD c ≤ 15 := by
  unfold refD
  split
  · omega
  split
  · omega
  split
  · omega
  · omega

/-- k digits of 16: the number, the error, how many were read. -/
def fourR : Nat → List UInt8 → Nat → Nat × Nat × Nat
  | 0, _, acc => (acc, 0, 0)
  | _ + 1, [], _ => (0, 2, 0)
  | k + 1, c :: l, acc => if refD c < 0 then (0, 4, 0) else ((fourR k l (acc * 16 + (refD c).toNat)).1, (fourR k l (acc * 16 + (refD c).toNat)).2.1, (fourR k l (acc * 16 + (refD c).toNat)).2.2 + 1)
theorem fourR_next (k : Nat) (t : List UInt8) (q acc : Nat) (hq : q < t.length) :
    fourR (k + 1) (t.drop q) acc = if refD t[q] < 0 then (0, 4, 0) else ((fourR k (t.drop (q + 1)) (acc * 16 + (refD t[q]).toNat)).1, (fourR k (t.drop (q + 1)) (acc * 16 + (refD t[q]).toNat)).2.1, (fourR k (t.drop (q + 1)) (acc * 16 + (refD t[q]).toNat)).2.2 + 1) := by
  rw [List.drop_eq_getElem_cons hq, fourR]
theorem or4 (acc : Nat) (d : Int) (h0 : 0 ≤ d) (h1 : d ≤ 15) (ha : acc ≤ 281474976710656) : bits .or .i64 ((acc : Int) * 16) d = ((acc * 16 + d.toNat : Nat) : Int) := by
  obtain ⟨n, rfl⟩ := Int.eq_ofNat_of_zero_le h0
  have e1 : ((acc : Int) * 16) = ((acc * 16 : Nat) : Int) := by omega
  rw [e1]
  have h1' : (BitVec.ofInt 64 ((acc * 16 : Nat) : Int)).toNat = acc * 16 := by rw [BitVec.toNat_ofInt]; omega
  have h2' : (BitVec.ofInt 64 (n : Int)).toNat = n := by rw [BitVec.toNat_ofInt]; omega
  show IntKind.i64.wrap ((BitVec.ofInt 64 ((acc * 16 : Nat) : Int) ||| BitVec.ofInt 64 (n : Int)).toNat : Nat) = _
  rw [BitVec.toNat_or, h1', h2', show acc * 16 = 2 ^ 4 * acc by omega, ← Nat.two_pow_add_eq_or_of_lt (by omega)]
  exact IntWalk.i64_in _ ⟨by omega, by omega⟩

set_option maxHeartbeats 1600000 in
theorem four_any (t o : List UInt8) (b p : Nat) (w : World) (h : RS w b t p o) (hp : p ≤ t.length) (hl : t.length ≤ 140737488355328) :
    Calls Tryz.prog 125 #[.pointer (some ⟨b, 0, none⟩)] w fun e w' =>
      e = .returned (.tuple #[.int .i64 ((fourR 4 (t.drop p) 0).1 : Int), .int .i64 ((fourR 4 (t.drop p) 0).2.1 : Int)]) ∧ RS w' b t (p + (fourR 4 (t.drop p) 0).2.2) o ∧ Below b w w' := by
  go_enter Tryz.func125, Tryz.ntmps125
  go_wp2_with fail
  go_loopw [4, 6] (fun n i wr => ∃ k acc : Nat, k ≤ 4 ∧ p + k ≤ t.length ∧ i = .int .i64 (k : Int) ∧ n = .int .i64 (acc : Int) ∧ acc < 16 ^ k ∧ RS wr b t (p + k) o ∧ Below b w wr ∧
      fourR 4 (t.drop p) 0 = ((fourR (4 - k) (t.drop (p + k)) acc).1, (fourR (4 - k) (t.drop (p + k)) acc).2.1, (fourR (4 - k) (t.drop (p + k)) acc).2.2 + k))
    (fun _ i _ => 4 - (intOf i).toNat)
  case atStart => exact ⟨0, 0, by omega, hp, rfl, rfl, by decide, h, Below.refl _ _, rfl⟩
  case round =>
    obtain ⟨k, acc, hk, hpk, rfl, rfl, hacc, hrs, hb, hr⟩ := hrel
    have hpow : 16 ^ k ≤ 65536 := by
      have := Nat.pow_le_pow_right (n := 16) (by omega) hk
      simpa using this
    have haccb : acc < 65536 := by omega
    have hpow1 : 16 ^ (k + 1) = 16 ^ k * 16 := Nat.pow_succ ..
    obtain ⟨q, hq⟩ : ∃ q, q = p + k := ⟨_, rfl⟩
    rw [← hq] at hrs hpk
    have h0 := hrs.c0
    have h1 := hrs.c1
    have hf := hrs.fr 1
    have hbw := hrs.lt
    have HRS := Lib.hid hrs
    have HR := Lib.hid hr
    have HP1 := Lib.hid hpow1
    clear hrs hr hpow1
    by_cases hlt : k < 4
    · have n0 : (k : Int) < 4 := by omega
      by_cases hqt : q < t.length
      · have n1 : ((q : Int) == (t.length : Int)) = false := by rw [beq_eq_false_iff_ne]; omega
        have n2 : (q : Int) < (t.length : Int) := by omega
        have n3 : (0 : Int) ≤ (q : Int) := by omega
        obtain ⟨d, hd⟩ : ∃ d, d = t[q] := ⟨_, rfl⟩
        have hgd : (ByteArray.mk t.toArray)[q]'(by simpa [ByteArray.size] using hqt) = d := hd.symm
        have hnx := fourR_next (4 - k - 1) t q acc hqt
        rw [← hd, show 4 - k - 1 + 1 = 4 - k by omega] at hnx
        have hrg := refD_range d
        obtain ⟨z, hz⟩ : ∃ z, z = refD d := ⟨_, rfl⟩
        rw [← hz] at hnx hrg
        have HZ := Lib.hid hz
        have HQ := Lib.hid hq
        clear hq hd hz
        by_cases hneg : z < 0
        · rw [if_pos hneg] at hnx
          have hfin : fourR 4 (t.drop p) 0 = (0, 4, k) := by rw [HR.out, ← HQ.out, hnx]; simp
          have HF := Lib.hid hfin
          clear hfin hnx
          go_wp2_with fail
          go_quiet (fail)
          have hrs5 := HRS.out.drewN nq
          have hb5 := Below.drewsN hb nq
          generalize wr.drewN nq = w5 at hrs5 hb5 ⊢
          have h05 := hrs5.c0
          have h15 := hrs5.c1
          have hf5 := hrs5.fr 1
          have hbw5 := hrs5.lt
          have HRS5 := Lib.hid hrs5
          clear hrs5 h0 h1 hf hbw
          go_wp2_with fail
          go_quiet ((go_at_call 130; exact Calls.quiet_of_same (tDigit_ret _ _)))
          rw [← HZ.out]
          go_wp2_with fail
          go_ret2
          exact ⟨by rw [HF.out]; rfl, by rw [HF.out]; exact HQ.out ▸ HRS5.out.drewN _, Below.drewsN hb5 _⟩
        · have n5 : ¬ z < 0 := hneg
          rw [if_neg hneg] at hnx
          have HNX := Lib.hid hnx
          clear hnx
          have ho4 := or4 acc z (by omega) hrg.2 (by omega)
          go_wp2_with fail
          go_quiet (fail)
          have hrs5 := HRS.out.drewN nq
          have hb5 := Below.drewsN hb nq
          generalize wr.drewN nq = w5 at hrs5 hb5 ⊢
          have h05 := hrs5.c0
          have h15 := hrs5.c1
          have hf5 := hrs5.fr 1
          have hbw5 := hrs5.lt
          have HRS5 := Lib.hid hrs5
          clear hrs5 h0 h1 hf hbw
          go_wp2_with fail
          go_quiet ((go_at_call 130; exact Calls.quiet_of_same (tDigit_ret _ _)))
          rw [← HZ.out]
          go_wp2_with fail
          go_roundw
          case rel =>
            refine ⟨k + 1, acc * 16 + z.toNat, by omega, by have := HQ.out; omega, by go_num, by rw [show (acc : Int) * 16 + max z 0 = ((acc * 16 + z.toNat : Nat) : Int) by omega], by rw [HP1.out]; omega, ?_, ?_, ?_⟩
            · rw [show p + (k + 1) = q + 1 by have := HQ.out; omega]
              exact (HRS5.out.drewN _).setAt (q + 1) _ (by omega)
            · exact Below.setCell (p := ⟨b, 1, none⟩) (Below.drewsN hb5 _) (Nat.le_refl b) _
            · rw [HR.out, ← HQ.out, HNX.out, show 4 - k - 1 = 4 - (k + 1) by omega, show p + (k + 1) = q + 1 by have := HQ.out; omega]
              simp only [Prod.mk.injEq, true_and]
              omega
          case measure => simp [intOf]; omega
      · obtain rfl : q = t.length := by omega
        have n1 : ((t.length : Int) == (t.length : Int)) = true := beq_self_eq_true _
        have hfin : fourR 4 (t.drop p) 0 = (0, 2, k) := by
          rw [HR.out, ← hq, List.drop_length, show 4 - k = (4 - k - 1) + 1 by omega]; simp [fourR]
        have HF := Lib.hid hfin
        have HQ := Lib.hid hq
        clear hfin hq
        go_wp2_with fail
        go_quiet (fail)
        go_wp2_with fail
        go_ret2
        exact ⟨by rw [HF.out]; rfl, by rw [HF.out]; exact HQ.out ▸ HRS.out.drewN _, Below.drewsN hb _⟩
    · have n0 : ¬ (k : Int) < 4 := by omega
      obtain rfl : k = 4 := by omega
      have hfin : fourR 4 (t.drop p) 0 = (acc, 0, 4) := by rw [HR.out]; simp [fourR]
      have HF := Lib.hid hfin
      have HQ := Lib.hid hq
      clear hfin hq
      go_wp2_with fail
      go_ret2
      exact ⟨by rw [HF.out]; rfl, by rw [HF.out]; exact HQ.out ▸ HRS.out, hb⟩
end Go.Proofs.YtidlhajibjnkeaaGreatDoor

/- text.meant and the reader's second by their contracts. -/
namespace Go.Proofs.YtidlhajibjnkeaaGreatDoor
open Go.RowKit

/-- The byte that a letter behind a backslash stands for. -/
def meB (c : UInt8) : UInt8 × Bool := if c.toNat = 34 then (34, true) else if c.toNat = 92 then (92, true) else if c.toNat = 47 then (47, true) else if c.toNat = 98 then (8, true) else if c.toNat = 102 then (12, true) else if c.toNat = 110 then (10, true) else if c.toNat = 114 then (13, true) else if c.toNat = 116 then (9, true) else (0, false)
def meE (c : UInt8) : Ending := .returned (.tuple #[.int .u8 ((meB c).1.toNat : Int), .bool (meB c).2])
theorem meant_any (c : UInt8) (w : World) : Calls Tryz.prog 117 #[.int .u8 (c.toNat : Int)] w fun e w' => e = meE c ∧ w' = w := by
  by_cases h34 : c.toNat = 34
  · have e : meE c = .returned (.tuple #[.int .u8 34, .bool true]) := by rw [meE, show meB c = (34, true) by simp [meB, h34]]; rfl
    rw [e, show (c.toNat : Int) = 34 by omega]
    clear e
    go_enter Tryz.func117, Tryz.ntmps117
    go_wp2
    go_ret2
    exact ⟨rfl, rfl⟩
  by_cases h92 : c.toNat = 92
  · have e : meE c = .returned (.tuple #[.int .u8 92, .bool true]) := by rw [meE, show meB c = (92, true) by simp [meB, h92]]; rfl
    rw [e, show (c.toNat : Int) = 92 by omega]
    clear e
    go_enter Tryz.func117, Tryz.ntmps117
    go_wp2
    go_ret2
    exact ⟨rfl, rfl⟩
  by_cases h47 : c.toNat = 47
  · have e : meE c = .returned (.tuple #[.int .u8 47, .bool true]) := by rw [meE, show meB c = (47, true) by simp [meB, h47]]; rfl
    rw [e, show (c.toNat : Int) = 47 by omega]
    clear e
    go_enter Tryz.func117, Tryz.ntmps117
    go_wp2
    go_ret2
    exact ⟨rfl, rfl⟩
  by_cases h98 : c.toNat = 98
  · have e : meE c = .returned (.tuple #[.int .u8 8, .bool true]) := by rw [meE, show meB c = (8, true) by simp [meB, h98]]; rfl
    rw [e, show (c.toNat : Int) = 98 by omega]
    clear e
    go_enter Tryz.func117, Tryz.ntmps117
    go_wp2
    go_ret2
    exact ⟨rfl, rfl⟩
  by_cases h102 : c.toNat = 102
  · have e : meE c = .returned (.tuple #[.int .u8 12, .bool true]) := by rw [meE, show meB c = (12, true) by simp [meB, h102]]; rfl
    rw [e, show (c.toNat : Int) = 102 by omega]
    clear e
    go_enter Tryz.func117, Tryz.ntmps117
    go_wp2
    go_ret2
    exact ⟨rfl, rfl⟩
  by_cases h110 : c.toNat = 110
  · have e : meE c = .returned (.tuple #[.int .u8 10, .bool true]) := by rw [meE, show meB c = (10, true) by simp [meB, h110]]; rfl
    rw [e, show (c.toNat : Int) = 110 by omega]
    clear e
    go_enter Tryz.func117, Tryz.ntmps117
    go_wp2
    go_ret2
    exact ⟨rfl, rfl⟩
  by_cases h114 : c.toNat = 114
  · have e : meE c = .returned (.tuple #[.int .u8 13, .bool true]) := by rw [meE, show meB c = (13, true) by simp [meB, h114]]; rfl
    rw [e, show (c.toNat : Int) = 114 by omega]
    clear e
    go_enter Tryz.func117, Tryz.ntmps117
    go_wp2
    go_ret2
    exact ⟨rfl, rfl⟩
  by_cases h116 : c.toNat = 116
  · have e : meE c = .returned (.tuple #[.int .u8 9, .bool true]) := by rw [meE, show meB c = (9, true) by simp [meB, h116]]; rfl
    rw [e, show (c.toNat : Int) = 116 by omega]
    clear e
    go_enter Tryz.func117, Tryz.ntmps117
    go_wp2
    go_ret2
    exact ⟨rfl, rfl⟩
  have e34 : ((c.toNat : Int) == 34) = false := by rw [beq_eq_false_iff_ne]; omega
  have e92 : ((c.toNat : Int) == 92) = false := by rw [beq_eq_false_iff_ne]; omega
  have e47 : ((c.toNat : Int) == 47) = false := by rw [beq_eq_false_iff_ne]; omega
  have e98 : ((c.toNat : Int) == 98) = false := by rw [beq_eq_false_iff_ne]; omega
  have e102 : ((c.toNat : Int) == 102) = false := by rw [beq_eq_false_iff_ne]; omega
  have e110 : ((c.toNat : Int) == 110) = false := by rw [beq_eq_false_iff_ne]; omega
  have e114 : ((c.toNat : Int) == 114) = false := by rw [beq_eq_false_iff_ne]; omega
  have e116 : ((c.toNat : Int) == 116) = false := by rw [beq_eq_false_iff_ne]; omega
  have e : meE c = .returned (.tuple #[.int .u8 0, .bool false]) := by rw [meE, show meB c = (0, false) by simp [meB, h34, h92, h47, h98, h102, h110, h114, h116]]; rfl
  rw [e]
  clear e h34 h92 h47 h98 h102 h110 h114 h116
  go_enter Tryz.func117, Tryz.ntmps117
  go_wp2_with fail
  go_ret2
  exact ⟨rfl, rfl⟩

/-- The second of two surrogates: the number, the error, how many bytes were read. -/
def secR (t : List UInt8) (p : Nat) : Nat × Nat × Nat :=
  if wantN t p 92 ≠ 0 then (0, wantN t p 92, 0)
  else if wantN t (p + 1) 117 ≠ 0 then (0, wantN t (p + 1) 117, 1)
  else ((fourR 4 (t.drop (p + 2)) 0).1, if (fourR 4 (t.drop (p + 2)) 0).2.1 = 0 ∧ ((fourR 4 (t.drop (p + 2)) 0).1 < 56320 ∨ 57343 < (fourR 4 (t.drop (p + 2)) 0).1) then 4 else (fourR 4 (t.drop (p + 2)) 0).2.1, (fourR 4 (t.drop (p + 2)) 0).2.2 + 2)
theorem wantN_zero {t : List UInt8} {p : Nat} {c : UInt8} (h : wantN t p c = 0) : p < t.length := by
  unfold wantN at h
  split at h
  · assumption
  · cases h

set_option maxHeartbeats 1600000 in
theorem second_any (t o : List UInt8) (b p : Nat) (w : World) (h : RS w b t p o) (hp : p ≤ t.length) (hl : t.length ≤ 140737488355328) :
    Calls Tryz.prog 126 #[.pointer (some ⟨b, 0, none⟩)] w fun e w' =>
      e = .returned (.tuple #[.int .i64 ((secR t p).1 : Int), .int .i64 ((secR t p).2.1 : Int)]) ∧ RS w' b t (p + (secR t p).2.2) o ∧ Below b w w' := by
  have HRS := Lib.hid h
  clear h
  go_enter Tryz.func126, Tryz.ntmps126
  go_wp2_with fail
  have hlt := HRS.out.lt
  have hc0 : (w.alloc (.cells #[.int .u8 92, .int .u8 117] 5)).cell? ⟨w.heap.size, 0, none⟩ = some (.int .u8 92) := by simp
  have hc1 : (w.alloc (.cells #[.int .u8 92, .int .u8 117] 5)).cell? ⟨w.heap.size, 1, none⟩ = some (.int .u8 117) := by simp
  have hba : Below b w (w.alloc (.cells #[.int .u8 92, .int .u8 117] 5)) := (Below.refl b w).alloc (by omega) _
  have hra := HRS.out.alloc (.cells #[.int .u8 92, .int .u8 117] 5)
  obtain ⟨g, hg⟩ : ∃ g, g = w.heap.size := ⟨_, rfl⟩
  rw [← hg] at hc0 hc1 hlt ⊢
  have HG := Lib.hid hg
  generalize hwa : w.alloc (.cells #[.int .u8 92, .int .u8 117] 5) = wa at *
  have HWA := Lib.hid hwa
  clear hwa hg
  go_loopw [11] (fun i wr => ∃ k : Nat, k ≤ 2 ∧ i = .int .i64 (k : Int) ∧ RS wr b t (p + k) o ∧ p + k ≤ t.length ∧ Below b w wr ∧ OnlyT b wa wr ∧ (0 < k → wantN t p 92 = 0) ∧ (1 < k → wantN t (p + 1) 117 = 0))
    (fun i _ => 2 - (intOf i).toNat)
  case atStart => exact ⟨0, by omega, rfl, hra, hp, hba, ⟨Nat.le_refl _, fun _ _ _ => rfl⟩, (fun h => by omega), (fun h => by omega)⟩
  case round =>
    obtain ⟨k, hk, rfl, hrs, hpk, hb, hon, hw0, hw1⟩ := hrel
    have HW0 := Lib.hid hw0
    have HW1 := Lib.hid hw1
    clear hw0 hw1
    have d0 := hon.cell hc0 (by omega)
    have d1 := hon.cell hc1 (by omega)
    rcases (show k = 0 ∨ k = 1 ∨ k = 2 by omega) with rfl | rfl | rfl
    · go_wp2_with fail
      refine (want_any t o b p 92 _ hrs hpk hl).mono ?_
      rintro e w3 ⟨rfl, hrs3, hb3, hon3⟩
      by_cases hz : wantN t p 92 = 0
      · have HZ := Lib.hid hz
        rw [if_pos hz] at hrs3
        rw [hz]
        clear hz
        go_wp2_with fail
        go_roundw
        case rel => exact ⟨1, by omega, rfl, hrs3, wantN_zero HZ.out, hb.trans hb3, hon.trans hon3, fun _ => HZ.out, fun h => by omega⟩
        case measure => simp [intOf]
      · have hne : (((wantN t p 92 : Nat) : Int) != 0) = true := by rw [bne_iff_ne]; omega
        rw [if_neg hz] at hrs3
        have hs : secR t p = (0, wantN t p 92, 0) := by rw [secR, if_pos hz]
        have HS := Lib.hid hs
        clear hz hs
        go_wp2_with fail
        go_ret2
        exact ⟨by rw [HS.out]; rfl, by rw [HS.out]; exact hrs3, hb.trans hb3⟩
    · go_wp2_with fail
      refine (want_any t o b (p + 1) 117 _ hrs hpk hl).mono ?_
      rintro e w3 ⟨rfl, hrs3, hb3, hon3⟩
      by_cases hz : wantN t (p + 1) 117 = 0
      · have HZ := Lib.hid hz
        rw [if_pos hz] at hrs3
        rw [hz]
        clear hz
        go_wp2_with fail
        go_roundw
        case rel => exact ⟨2, by omega, rfl, hrs3, wantN_zero HZ.out, hb.trans hb3, hon.trans hon3, fun _ => HW0.out (by omega), fun _ => HZ.out⟩
        case measure => simp [intOf]
      · have hne : (((wantN t (p + 1) 117 : Nat) : Int) != 0) = true := by rw [bne_iff_ne]; omega
        rw [if_neg hz] at hrs3
        have hs : secR t p = (0, wantN t (p + 1) 117, 1) := by rw [secR, if_neg (by rw [HW0.out (by omega)]; simp), if_pos hz]
        have HS := Lib.hid hs
        clear hz hs
        go_wp2_with fail
        go_ret2
        exact ⟨by rw [HS.out]; rfl, by rw [HS.out]; exact hrs3, hb.trans hb3⟩
    · go_wp2_with fail
      refine (four_any t o b (p + 2) _ hrs hpk hl).mono ?_
      rintro e w3 ⟨rfl, hrs3, hb3⟩
      have hs : secR t p = ((fourR 4 (t.drop (p + 2)) 0).1, if (fourR 4 (t.drop (p + 2)) 0).2.1 = 0 ∧ ((fourR 4 (t.drop (p + 2)) 0).1 < 56320 ∨ 57343 < (fourR 4 (t.drop (p + 2)) 0).1) then 4 else (fourR 4 (t.drop (p + 2)) 0).2.1, (fourR 4 (t.drop (p + 2)) 0).2.2 + 2) := by
        rw [secR, if_neg (by rw [HW0.out (by omega)]; simp), if_neg (by rw [HW1.out (by omega)]; simp)]
      obtain ⟨n, er, m, hr⟩ : ∃ n er m, fourR 4 (t.drop (p + 2)) 0 = (n, er, m) := ⟨_, _, _, rfl⟩
      rw [hr] at hs hrs3
      rw [hr]
      have HS := Lib.hid hs
      clear hs hr
      obtain ⟨N, hN⟩ : ∃ N : Int, N = (n : Int) := ⟨_, rfl⟩
      simp only
      rw [← hN]
      by_cases he : er = 0
      · subst he
        by_cases hlo : n < 56320
        · have n1 : N < 56320 := by omega
          have hv : secR t p = (n, 4, m + 2) := by rw [HS.out]; simp [hlo]
          have HV := Lib.hid hv
          have HN := Lib.hid hN
          clear hv hN hlo HS
          go_wp2_with fail
          go_ret2
          exact ⟨by rw [HV.out, HN.out]; rfl, by rw [HV.out]; simpa [Nat.add_assoc, Nat.add_comm, Nat.add_left_comm] using hrs3, hb.trans hb3⟩
        · have n1 : ¬ N < 56320 := by omega
          by_cases hhi : 57343 < n
          · have n2 : 57343 < N := by omega
            have hv : secR t p = (n, 4, m + 2) := by rw [HS.out]; simp [hhi]
            have HV := Lib.hid hv
            have HN := Lib.hid hN
            clear hv hN hlo hhi HS
            go_wp2_with fail
            go_ret2
            exact ⟨by rw [HV.out, HN.out]; rfl, by rw [HV.out]; simpa [Nat.add_assoc, Nat.add_comm, Nat.add_left_comm] using hrs3, hb.trans hb3⟩
          · have n2 : ¬ 57343 < N := by omega
            have hv : secR t p = (n, 0, m + 2) := by rw [HS.out]; simp [hlo, hhi]
            have HV := Lib.hid hv
            have HN := Lib.hid hN
            clear hv hN hlo hhi HS
            go_wp2_with fail
            go_ret2
            exact ⟨by rw [HV.out, HN.out]; rfl, by rw [HV.out]; simpa [Nat.add_assoc, Nat.add_comm, Nat.add_left_comm] using hrs3, hb.trans hb3⟩
      · have n0 : ((er : Int) == 0) = false := by rw [beq_eq_false_iff_ne]; omega
        have hv : secR t p = (n, er, m + 2) := by rw [HS.out]; simp [he]
        have HV := Lib.hid hv
        have HN := Lib.hid hN
        clear hv hN he HS
        go_wp2_with fail
        go_ret2
        exact ⟨by rw [HV.out, HN.out]; rfl, by rw [HV.out]; simpa [Nat.add_assoc, Nat.add_comm, Nat.add_left_comm] using hrs3, hb.trans hb3⟩
end Go.Proofs.YtidlhajibjnkeaaGreatDoor
