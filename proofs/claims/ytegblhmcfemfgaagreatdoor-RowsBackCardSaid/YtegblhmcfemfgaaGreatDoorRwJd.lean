/- Joined: Math, VarMath, Keys, RwPut, RwPut2, RwIf. -/
import Derived.Test.YtegblhmcfemfgaaGreatDoorKit
import Derived.Test.YtegblhmcfemfgaaGreatDoorRwJa
import Derived.Test.YtegblhmcfemfgaaGreatDoorJValue
import Derived.Deep.RegionHeld3
import Derived.Test.YtegblhmcfemfgaaGreatDoorBx
namespace Go.Proofs.YtegblhmcfemfgaaGreatDoor
open Go.RowKit

theorem digL_succ (n wd : Nat) : digL n (wd + 1) = db n wd :: digL n wd := by
  unfold digL
  rw [List.range_succ_eq_map, List.map_cons, List.map_map]
  congr 1
  apply List.map_congr_left
  intro j hj
  simp only [Function.comp_apply]
  congr 1
  omega

theorem db_toNat (n j : Nat) : (db n j).toNat = 48 + n / 10 ^ j % 10 := by
  unfold db; rw [UInt8.toNat_ofNat']; omega

theorem db_lt (a b j : Nat) : (db a j < db b j) ↔ a / 10 ^ j % 10 < b / 10 ^ j % 10 := by
  rw [UInt8.lt_iff_toNat_lt, db_toNat, db_toNat]; omega
theorem db_eq (a b j : Nat) : (db a j = db b j) ↔ a / 10 ^ j % 10 = b / 10 ^ j % 10 := by
  rw [← UInt8.toNat_inj, db_toNat, db_toNat]; omega

theorem mod_succ (a wd : Nat) : a % 10 ^ (wd + 1) = a % 10 ^ wd + 10 ^ wd * (a / 10 ^ wd % 10) := by
  rw [Nat.pow_succ, Nat.mod_mul]

theorem lex_lt (p d e r s : Nat) (hr : r < p) (hs : s < p) : (r + p * d < s + p * e) ↔ (d < e ∨ (d = e ∧ r < s)) := by
  constructor
  · intro h
    rcases Nat.lt_trichotomy d e with h1 | h1 | h1
    · exact .inl h1
    · subst h1; exact .inr ⟨rfl, by omega⟩
    · have : p * (e + 1) ≤ p * d := Nat.mul_le_mul_left p h1
      rw [Nat.mul_add] at this; omega
  · rintro (h | ⟨rfl, h⟩)
    · have : p * (d + 1) ≤ p * e := Nat.mul_le_mul_left p h
      rw [Nat.mul_add] at this; omega
    · omega
theorem lex_eq (p d e r s : Nat) (hr : r < p) (hs : s < p) : (r + p * d = s + p * e) ↔ (d = e ∧ r = s) := by
  have h1 := lex_lt p d e r s hr hs
  have h2 := lex_lt p e d s r hs hr
  constructor
  · intro h
    have a : ¬ (r + p * d < s + p * e) := by omega
    have b : ¬ (s + p * e < r + p * d) := by omega
    rw [h1] at a; rw [h2] at b
    omega
  · rintro ⟨rfl, rfl⟩; rfl

theorem digL_lt_eq (a b : Nat) : ∀ wd, Op.bytesLess (digL a wd) (digL b wd) = decide (a % 10 ^ wd < b % 10 ^ wd) ∧ (digL a wd == digL b wd) = decide (a % 10 ^ wd = b % 10 ^ wd)
  | 0 => by simp [digL, Op.bytesLess, Nat.mod_one]
  | wd + 1 => by
    have ih := digL_lt_eq a b wd
    have hr := Nat.mod_lt a (Nat.pow_pos (n := wd) (show 0 < 10 by omega))
    have hs := Nat.mod_lt b (Nat.pow_pos (n := wd) (show 0 < 10 by omega))
    rw [digL_succ, digL_succ, mod_succ, mod_succ]
    have e1 := lex_lt (10 ^ wd) (a / 10 ^ wd % 10) (b / 10 ^ wd % 10) _ _ hr hs
    have e2 := lex_eq (10 ^ wd) (a / 10 ^ wd % 10) (b / 10 ^ wd % 10) _ _ hr hs
    have f1 := db_lt a b wd
    have f2 := db_eq a b wd
    have g : (db a wd == db b wd) = decide (a / 10 ^ wd % 10 = b / 10 ^ wd % 10) := by
      rw [Bool.eq_iff_iff, beq_iff_eq, decide_eq_true_iff, f2]
    constructor
    · rw [Op.bytesLess, ih.1, g, Bool.eq_iff_iff]
      simp only [Bool.or_eq_true, Bool.and_eq_true, decide_eq_true_iff]
      rw [f1, e1]
    · rw [List.cons_beq_cons, ih.2, g, Bool.eq_iff_iff]
      simp only [Bool.and_eq_true, decide_eq_true_iff]
      rw [e2]

theorem dig_less (a b wd : Nat) (ha : a < 10 ^ wd) (hb : b < 10 ^ wd) : Op.bytesLess (digL a wd) (digL b wd) = decide (a < b) := by
  rw [(digL_lt_eq a b wd).1, Nat.mod_eq_of_lt ha, Nat.mod_eq_of_lt hb]
theorem dig_same (a b wd : Nat) (ha : a < 10 ^ wd) (hb : b < 10 ^ wd) : (digL a wd == digL b wd) = decide (a = b) := by
  rw [(digL_lt_eq a b wd).2, Nat.mod_eq_of_lt ha, Nat.mod_eq_of_lt hb]

theorem varL_mono : ∀ (n m k : Nat), n ≤ k → m ≤ n → (varL m).length ≤ (varL n).length := by
  intro n m k
  induction k generalizing n m with
  | zero => intro h1 h2; rw [show m = 0 by omega, show n = 0 by omega]; exact Nat.le_refl _
  | succ k ih =>
    intro h1 h2
    by_cases hm : m < 128
    · rw [varL_small m hm]; exact varL_pos n
    · rw [varL_big m hm, varL_big n (by omega), List.length_cons, List.length_cons]
      have := ih (n / 128) (m / 128) (by omega) (Nat.div_le_div_right h2)
      omega
end Go.Proofs.YtegblhmcfemfgaaGreatDoor
namespace Go.Proofs.YtegblhmcfemfgaaGreatDoor
open Go.RowKit

theorem rv_cons (f : Nat) (c : UInt8) (t : List UInt8) (p i acc : Nat) : rv (f + 1) (c :: t) p i acc =
    if 127 < c.toNat then rv f t (p + 1) (i + 1) (acc + c.toNat % 128 * 128 ^ i)
    else if c.toNat = 0 ∧ 0 < i then (0, 0, 4) else (acc + c.toNat % 128 * 128 ^ i, p + 1, 0) := rfl

theorem ofNat_toNat (n : Nat) (h : n < 256) : (UInt8.ofNat n).toNat = n := by rw [UInt8.toNat_ofNat']; omega

/-- What was written is read again, whatever stands behind it. -/
theorem rv_varL (rest : List UInt8) : ∀ (f n p i acc : Nat), (varL n).length ≤ f → (i = 0 ∨ 0 < n) → rv f (varL n ++ rest) p i acc = (acc + n * 128 ^ i, p + (varL n).length, 0)
  | 0, n, p, i, acc, h, _ => by have := varL_pos n; omega
  | f + 1, n, p, i, acc, h, hi => by
    by_cases hn : n < 128
    · rw [varL_small n hn, List.singleton_append, rv_cons, ofNat_toNat n (by omega), if_neg (by omega), if_neg (by omega), Nat.mod_eq_of_lt hn]
      rfl
    · rw [varL_big n hn, List.length_cons] at h
      rw [varL_big n hn, List.cons_append, rv_cons, ofNat_toNat _ (by omega), if_pos (by omega), rv_varL rest f (n / 128) _ _ _ (by omega) (.inr (by omega))]
      have e : (n % 128 + 128) % 128 = n % 128 := by omega
      have e2 : n % 128 * 128 ^ i + n / 128 * 128 ^ (i + 1) = n * 128 ^ i := by
        rw [Nat.pow_succ, Nat.mul_comm (128 ^ i) 128, ← Nat.mul_assoc, ← Nat.add_mul]
        congr 1
        omega
      rw [e, List.length_cons, Nat.add_assoc acc, e2]
      congr 2
      omega

/-- Bytes that all say that more follow. -/
def Cont (l : List UInt8) : Prop := ∀ c ∈ l, 127 < c.toNat
theorem rv_cont : ∀ (l : List UInt8) (f p i acc : Nat) (t : List UInt8), Cont l → l.length ≤ f → ∃ acc', rv f (l ++ t) p i acc = rv (f - l.length) t (p + l.length) (i + l.length) acc'
  | [], f, p, i, acc, t, _, _ => ⟨acc, by simp⟩
  | c :: l, 0, p, i, acc, t, _, h => by simp at h
  | c :: l, f + 1, p, i, acc, t, hc, h => by
    have h1 := hc c (by simp)
    obtain ⟨acc', e⟩ := rv_cont l f (p + 1) (i + 1) (acc + c.toNat % 128 * 128 ^ i) t (fun x hx => hc x (by simp [hx])) (by simpa using h)
    refine ⟨acc', ?_⟩
    rw [List.cons_append, rv_cons, if_pos h1, e, List.length_cons]
    congr 1 <;> omega

/-- All bytes but the last say that more follow. -/
theorem varL_form : ∀ (k n : Nat), n ≤ k → Cont (varL n).dropLast
  | 0, n, h => by rw [varL_small n (by omega)]; intro c hc; simp at hc
  | k + 1, n, h => by
    by_cases hn : n < 128
    · rw [varL_small n hn]; intro c hc; simp at hc
    · rw [varL_big n hn]
      have ih := varL_form k (n / 128) (by omega)
      have hp := varL_pos (n / 128)
      rw [List.dropLast_cons_of_ne_nil (by intro e; rw [e] at hp; simp at hp)]
      intro c hc
      rcases List.mem_cons.1 hc with rfl | hc
      · rw [ofNat_toNat _ (by omega)]; omega
      · exact ih c hc

/-- Cut off, it is too short. -/
theorem rv_cut (n c : Nat) (h : c < (varL n).length) (h8 : (varL n).length ≤ 8) : (rv 8 ((varL n).take c) 0 0 0) = (0, 0, 2) := by
  have hc : Cont ((varL n).take c) := by
    intro x hx
    refine varL_form n n (Nat.le_refl _) x ?_
    rw [List.dropLast_eq_take]
    have : (varL n).take c = ((varL n).take ((varL n).length - 1)).take c := by rw [List.take_take]; congr 1; omega
    rw [this] at hx
    exact List.mem_of_mem_take hx
  have hl : ((varL n).take c).length = c := by simp; omega
  obtain ⟨acc', e⟩ := rv_cont _ 8 0 0 0 [] hc (by omega)
  rw [List.append_nil, hl] at e
  rw [e, show 8 - c = (7 - c) + 1 by omega, rv_nil]

/-- With a 0 laid behind it, it is none. -/
theorem rv_long (l : List UInt8) (hc : Cont l) (h1 : 0 < l.length) (h8 : l.length ≤ 8) : (rv 8 (l ++ [0]) 0 0 0) = (0, 0, 4) := by
  obtain ⟨acc', e⟩ := rv_cont _ 8 0 0 0 [0] hc h8
  rw [e]
  by_cases h : l.length = 8
  · rw [h]; rfl
  · rw [show 8 - l.length = (7 - l.length) + 1 by omega, rv_cons, if_neg (by decide), if_pos ⟨by decide, by omega⟩]

/-- No number's bytes begin another's. -/
theorem varL_prefix (a b : Nat) (ha : (varL a).length ≤ 8) (hb : (varL b).length ≤ 8) (h : (varL b).take (varL a).length = varL a) : a = b := by
  have h1 := rv_varL ((varL b).drop (varL a).length) 8 a 0 0 0 ha (.inl rfl)
  have h2 := rv_varL [] 8 b 0 0 0 hb (.inl rfl)
  have e : varL a ++ (varL b).drop (varL a).length = varL b := by
    conv => lhs; lhs; rw [← h]
    exact List.take_append_drop _ _
  rw [e] at h1
  rw [List.append_nil] at h2
  have := h1.symm.trans h2
  simp at this
  exact this.1

theorem or128_u8 (c : UInt8) : bits .or .u8 (c.toNat : Int) 128 = ((c ||| 128).toNat : Int) := by
  rw [show (128 : Int) = ((128 : Nat) : Int) from rfl, u8_or_nat _ _ (by have := c.toNat_lt; omega) (by omega)]
  simp
theorem or128_big (c : UInt8) : 127 < (c ||| 128).toNat := by
  rw [UInt8.toNat_or]
  have h : 128 ≤ c.toNat ||| 128 := Nat.right_le_or
  exact h
end Go.Proofs.YtegblhmcfemfgaaGreatDoor
namespace Go.Proofs.YtegblhmcfemfgaaGreatDoor
open Go.RowKit

def nmB (c : UInt8) : Bool := (decide (97 ≤ c.toNat) && decide (c.toNat ≤ 122)) || (decide (48 ≤ c.toNat) && decide (c.toNat ≤ 57)) || decide (c.toNat = 45)
def nameB (l : List UInt8) : Bool := l.all nmB && (decide (1 ≤ l.length) && decide (l.length ≤ 20))
theorem nameB_no {l : List UInt8} (k : Nat) (hk : k < l.length) (h : nmB l[k] = false) : nameB l = false := by
  have : l.all nmB = false := by
    rw [List.all_eq_false]
    exact ⟨l[k], List.getElem_mem hk, by simp [h]⟩
  rw [nameB, this]; rfl
theorem nameB_len {l : List UInt8} (h : nameB l = true) : 1 ≤ l.length ∧ l.length ≤ 20 := by
  unfold nameB at h
  simp at h
  exact h.2

set_option maxHeartbeats 3200000 in
theorem name_any (l : List UInt8) (w : World) (hl : l.length ≤ 9223372036854775807) :
    Calls Tryz.prog 30 #[str l] w fun e w' => e = .returned (.bool (nameB l)) ∧ w' = w := by
  go_enter Tryz.func30, Tryz.ntmps30
  go_wp2_with fail
  go_loop [7] (fun i => ∃ k : Nat, k ≤ l.length ∧ i = .int .i64 (k : Int) ∧ (l.take k).all nmB = true) (fun i => l.length - (intOf i).toNat)
  case atStart => exact ⟨0, Nat.zero_le _, rfl, rfl⟩
  case round =>
    obtain ⟨k, hk, rfl, hall⟩ := hrel
    have HALL := Lib.hid hall
    clear hall
    by_cases hlt : k < l.length
    · have n1 : (k : Int) < (l.length : Int) := by omega
      obtain ⟨d, hd⟩ : ∃ d, d = l[k] := ⟨_, rfl⟩
      have hgd : (ByteArray.mk l.toArray)[k]'(by simpa [ByteArray.size] using hlt) = d := hd.symm
      have hts : l.take (k + 1) = l.take k ++ [d] := by rw [hd]; exact List.take_succ_eq_append_getElem hlt
      have hno : nmB d = false → nameB l = false := fun h => nameB_no k hlt (by rw [← hd]; exact h)
      have hyes : nmB d = true → (l.take (k + 1)).all nmB = true := fun h => by rw [hts, List.all_append, HALL.out]; simp [h]
      have HNO := Lib.hid hno
      have HYES := Lib.hid hyes
      have hnm : nmB d = ((decide (97 ≤ d.toNat) && decide (d.toNat ≤ 122)) || (decide (48 ≤ d.toNat) && decide (d.toNat ≤ 57)) || decide (d.toNat = 45)) := rfl
      have HNM := Lib.hid hnm
      clear hd hts hno hyes hnm
      have key : (122 < d.toNat ∨ (57 < d.toNat ∧ d.toNat < 97) ∨ (d.toNat < 48 ∧ d.toNat ≠ 45)) ∨ ((97 ≤ d.toNat ∧ d.toNat ≤ 122) ∨ (48 ≤ d.toNat ∧ d.toNat ≤ 57) ∨ d.toNat = 45) := by omega
      rcases key with hb | hg
      · have hf : nameB l = false := HNO.out (by rw [HNM.out]; simp; omega)
        have HF := Lib.hid hf
        clear hf
        have hb' : ((122 : Int) < (d.toNat : Int) ∧ ¬ (d.toNat : Int) < 97 ∧ ¬ (d.toNat : Int) < 48 ∧ (57 : Int) < (d.toNat : Int) ∧ ((d.toNat : Int) != 45) = true) ∨ (¬ (122 : Int) < (d.toNat : Int) ∧ (d.toNat : Int) < 97 ∧ ¬ (d.toNat : Int) < 48 ∧ (57 : Int) < (d.toNat : Int) ∧ ((d.toNat : Int) != 45) = true) ∨
            (¬ (122 : Int) < (d.toNat : Int) ∧ (d.toNat : Int) < 97 ∧ (d.toNat : Int) < 48 ∧ ¬ (57 : Int) < (d.toNat : Int) ∧ ((d.toNat : Int) != 45) = true) := by
          simp only [bne_iff_ne]; omega
        clear hb
        rcases hb' with ⟨x1, x2, x3, x4, x5⟩ | ⟨x1, x2, x3, x4, x5⟩ | ⟨x1, x2, x3, x4, x5⟩
        all_goals
          go_wp2_with fail
          go_ret
          exact ⟨by rw [HF.out]; rfl, rfl⟩
      · have hy := HYES.out (by rw [HNM.out]; simp; omega)
        have HY := Lib.hid hy
        clear hy
        have hb' : (¬ (122 : Int) < (d.toNat : Int) ∧ ¬ (d.toNat : Int) < 97 ∧ ¬ (d.toNat : Int) < 48) ∨ (¬ (122 : Int) < (d.toNat : Int) ∧ (d.toNat : Int) < 97 ∧ ¬ (d.toNat : Int) < 48 ∧ ¬ (57 : Int) < (d.toNat : Int)) ∨
            (¬ (122 : Int) < (d.toNat : Int) ∧ (d.toNat : Int) < 97 ∧ (d.toNat : Int) < 48 ∧ ((d.toNat : Int) != 45) = false) := by
          simp only [bne_eq_false_iff_eq]; omega
        clear hg
        rcases hb' with ⟨x1, x2, x3⟩ | ⟨x1, x2, x3, x4⟩ | ⟨x1, x2, x3, x4⟩
        all_goals
          go_wp2_with fail
          go_round
          case rel => exact ⟨k + 1, by omega, by go_num, HY.out⟩
          case measure => simp [intOf]; omega
    · obtain rfl : k = l.length := by omega
      have n1 : ¬ (l.length : Int) < (l.length : Int) := by omega
      have hn : nameB l = (decide (1 ≤ l.length) && decide (l.length ≤ 20)) := by
        have := HALL.out
        rw [List.take_length] at this
        rw [nameB, this]; rfl
      have HN := Lib.hid hn
      clear hn
      have key : ((1 : Int) ≤ (l.length : Int) ∧ (l.length : Int) ≤ 20) ∨ ¬ (1 : Int) ≤ (l.length : Int) ∨ ((1 : Int) ≤ (l.length : Int) ∧ ¬ (l.length : Int) ≤ 20) := by omega
      rcases key with ⟨k1, k2⟩ | k1 | ⟨k1, k2⟩
      · have hv : nameB l = true := by rw [HN.out]; simp; omega
        have HV := Lib.hid hv
        clear hv
        go_wp2_with fail
        go_ret
        exact ⟨by rw [HV.out]; rfl, rfl⟩
      · have hv : nameB l = false := by rw [HN.out]; simp; omega
        have HV := Lib.hid hv
        clear hv
        go_wp2_with fail
        go_ret
        exact ⟨by rw [HV.out]; rfl, rfl⟩
      · have hv : nameB l = false := by rw [HN.out]; simp; omega
        have HV := Lib.hid hv
        clear hv
        go_wp2_with fail
        go_ret
        exact ⟨by rw [HV.out]; rfl, rfl⟩
end Go.Proofs.YtegblhmcfemfgaaGreatDoor
namespace Go.Proofs.YtegblhmcfemfgaaGreatDoor
open Go.RowKit

/-- An object's text, or why not. -/
def objR (ms : List MemT) : List UInt8 × Int := if mayV (.mk 7 0 [] [] ms) 64 = true then (prV (.mk 7 0 [] [] ms), 0) else ([], 4)
set_option maxRecDepth 100000 in
set_option maxHeartbeats 2000000 in
theorem robject_any {F : Nat → Prop} {w : World} {am : Option Addr} {lm cm : Nat} {ms : List MemT} {rows : List (List Value)} (h1 : RdFB F 6 w (.slice am lm cm) rows) (h2 : RdM w F ms rows)
    (hl : mayV (.mk 7 0 [] [] ms) 64 = true → (prV (.mk 7 0 [] [] ms)).length ≤ 1000000) (ht : TabJ w.heap.size w) :
    Calls Tryz.prog 26 #[.slice am lm cm] w fun e w' => e = .returned (.tuple #[str (objR ms).1, .int .i64 (objR ms).2]) ∧ Below w.heap.size w w' := by
  unfold objR
  cases hm : mayV (.mk 7 0 [] [] ms) 64 with
  | true => rw [if_pos rfl]; exact object_yes h1 h2 hm (hl hm) ht
  | false =>
    rw [if_neg (by simp)]
    have C1 := Lib.hid (bObject_any am lm cm w)
    have CP : Hid (∀ W, Below w.heap.size w W → Calls Tryz.prog 55 #[.agg #[.int .i64 7, .int .i64 0, str [], .slice none 0 0, .slice am lm cm]] W fun e w' => e = .returned (.tuple #[.slice none 0 0, .int .i64 4]) ∧ Below W.heap.size W w') := Lib.hid (fun W hb =>
      print_no (F := F) (v := .mk 7 0 [] [] ms) (RdJ.mk0 (v := .mk 7 0 [] [] ms) (RdFB.nil _ _ _) (by unfold RdL; trivial) (h1.frm (Frm.of_below (F := fun _ => False) hb) (fun _ _ e => e)) (h2.up hb)) hm)
    clear h1 h2 hm ht hl
    go_enter Tryz.func26, Tryz.ntmps26
    go_wp2_with fail
    refine C1.out.mono ?_
    rintro e w1 ⟨rfl, hb1⟩
    have HB1 := Lib.hid hb1
    have CP1 := Lib.hid (CP.out w1 hb1)
    clear hb1 C1
    go_wp2_with fail
    refine CP1.out.mono ?_
    rintro e w2 ⟨rfl, hb2⟩
    have HB2 := Lib.hid (HB1.out.trans (hb2.mono HB1.out.size))
    have hconv := bt.toString Tryz.underlying9 (Rd.nil w2)
    clear hb2 CP1
    go_wp2_with fail
    go_ret2
    exact ⟨rfl, HB2.out⟩
set_option maxHeartbeats 1000000 in
theorem bNumber_any (nm : List UInt8) (n : Int) (w : World) : Calls Tryz.prog 27 #[str nm, .int .i64 n] w fun e w' => e = .returned (.agg #[str nm, .int .i64 4, .int .i64 n, str [], .slice none 0 0, .slice none 0 0]) ∧ Below w.heap.size w w' := by
  go_enter Tryz.func27, Tryz.ntmps27
  go_wp2_with fail
  exact bodyPost_ret (v := .agg #[str nm, .int .i64 4, .int .i64 n, str [], .slice none 0 0, .slice none 0 0]) (by simp [results, Tryz.results27, go_sem]) rfl ⟨rfl, below_alloc _ _⟩
set_option maxHeartbeats 1000000 in
theorem bText_any (nm s : List UInt8) (w : World) : Calls Tryz.prog 28 #[str nm, str s] w fun e w' => e = .returned (.agg #[str nm, .int .i64 5, .int .i64 0, str s, .slice none 0 0, .slice none 0 0]) ∧ Below w.heap.size w w' := by
  go_enter Tryz.func28, Tryz.ntmps28
  go_wp2_with fail
  exact bodyPost_ret (v := .agg #[str nm, .int .i64 5, .int .i64 0, str s, .slice none 0 0, .slice none 0 0]) (by simp [results, Tryz.results28, go_sem]) rfl ⟨rfl, below_alloc _ _⟩
theorem RdFB.lit6 {F : Nat → Prop} {sz : Nat} {w : World} {b n : Nat} {T : TypeId} (L : List (List Value)) (hr : ∀ r ∈ L, r.length = sz) (h : w.heap[b]? = some (.cells L.flatten.toArray T (0, 0))) (hn : n = L.length) (hl : L.length ≤ 9223372036854775807) (hF : F b) : RdFB F sz w (.slice (some ⟨b, 0, none⟩) n n) L := by
  obtain ⟨a, cap, hv, h1, h2, h3, h4⟩ := RdF.lit (w := w) (b := b) (n := n) (T := T) L hr h hn hl
  refine ⟨a, cap, hv, h1, h2, h3, fun hne => ?_⟩
  obtain ⟨b', off, ha, hc⟩ := h4 hne
  simp only [Value.slice.injEq] at hv
  rw [ha] at hv
  simp only [Option.some.injEq, Addr.mk.injEq, and_true] at hv
  obtain ⟨⟨rfl, rfl⟩, _⟩ := hv
  exact ⟨b, 0, ha, hF, hc⟩
def folderN : List UInt8 := [102, 111, 108, 100, 101, 114]
def subMs (s : List UInt8) : List MemT := [(folderN, .mk 5 0 s [] [])]
def putSubR (s : List UInt8) : List UInt8 × Int := if s ≠ [] ∧ nameB s = false then ([], 4) else objR (subMs s)
theorem objT_len {s : List UInt8} (h : txF s = true) : (prV (.mk 5 0 s [] [])).length ≤ 60000 := quo_len s h
theorem sub_len {s : List UInt8} (h : mayV (.mk 7 0 [] [] (subMs s)) 64 = true) : (prV (.mk 7 0 [] [] (subMs s))).length ≤ 1000000 := by
  have hx : txF s = true := by
    simp only [subMs, mayV, mayM, fitV, Bool.and_eq_true] at h
    simp_all
  have h1 := quo_len s hx
  have h2 : (quo folderN).length = 8 := by decide
  have e1 : prV (.mk 5 0 s [] []) = quo s := rfl
  have e : prV (.mk 7 0 [] [] (subMs s)) = 123 :: ((prU (subMs s)).drop 1 ++ [125]) := rfl
  rw [e]
  simp [subMs, prU, e1, h2]
  omega
set_option maxRecDepth 100000 in
set_option maxHeartbeats 2000000 in
theorem putSub_any (s : List UInt8) (w : World) (hl : s.length ≤ 9223372036854775807) (ht : TabJ w.heap.size w) : Calls Tryz.prog 9 #[str s] w fun e w' => e = .returned (.tuple #[str (putSubR s).1, .int .i64 (putSubR s).2]) ∧ Below w.heap.size w w' := by
  have CN := Lib.hid (fun W => name_any s W (by omega))
  have HT := Lib.hid ht
  have CT := Lib.hid (bText_any [102, 111, 108, 100, 101, 114] s w)
  have CO : Hid (∀ W, Below w.heap.size w W → Calls Tryz.prog 26 #[.slice (some ⟨W.heap.size, 0, none⟩) 1 1] (W.alloc (.cells #[str [102, 111, 108, 100, 101, 114], .int .i64 5, .int .i64 0, str s, .slice none 0 0, .slice none 0 0] 74)) fun e w' => e = .returned (.tuple #[str (objR (subMs s)).1, .int .i64 (objR (subMs s)).2]) ∧ Below W.heap.size W w') := Lib.hid (fun W hb => by
    have hb2 := below_alloc W (.cells #[str [102, 111, 108, 100, 101, 114], .int .i64 5, .int .i64 0, str s, .slice none 0 0, .slice none 0 0] 74)
    refine (robject_any (F := fun _ => True) (ms := subMs s) (rows := [[str [102, 111, 108, 100, 101, 114], .int .i64 5, .int .i64 0, str s, .slice none 0 0, .slice none 0 0]]) (RdFB.lit6 _ (by simp) (heap_alloc_new W _) rfl (by simp) trivial) (by
      unfold subMs RdM
      refine ⟨⟨_, rfl, plainJ _ _ 5 0 s⟩, ?_⟩
      unfold RdM
      trivial) sub_len (fun w' h' => HT.out w' ((hb.trans (hb2.mono hb.size)).trans (h'.mono (Nat.le_trans hb.size hb2.size))))).mono ?_
    rintro e w' ⟨rfl, h'⟩
    exact ⟨rfl, hb2.trans (h'.mono hb2.size)⟩)
  clear ht
  by_cases h0 : s = []
  · subst h0
    have HE : Hid (putSubR [] = objR (subMs [])) := Lib.hid (by unfold putSubR; rw [if_neg (by simp)])
    rw [HE.out]
    have g1 : (([] : List UInt8) != []) = false := rfl
    obtain ⟨R1, hR1⟩ : ∃ R1, R1 = (objR (subMs [])).1 := ⟨_, rfl⟩
    obtain ⟨R2, hR2⟩ : ∃ R2, R2 = (objR (subMs [])).2 := ⟨_, rfl⟩
    rw [← hR1, ← hR2] at CO
    rw [← hR1, ← hR2]
    clear HE hR1 hR2
    go_enter Tryz.func9, Tryz.ntmps9
    go_wp2_with fail
    refine CT.out.mono ?_
    rintro e w1 ⟨rfl, hb1⟩
    have HB1 := Lib.hid hb1
    have CO1 := Lib.hid (CO.out w1 hb1)
    clear hb1 CT
    go_wp2_with fail
    refine CO1.out.mono ?_
    rintro e w2 ⟨rfl, hb2⟩
    have HX := Lib.hid (HB1.out.trans (hb2.mono HB1.out.size))
    clear hb2 CO1
    go_wp2_with fail
    go_ret2
    exact ⟨rfl, HX.out⟩
  · have g0 : (s == []) = false := by rw [beq_eq_false_iff_ne]; exact h0
    have g1 : (s != []) = true := by rw [bne_iff_ne]; exact h0
    cases hn : nameB s with
    | false =>
      have HE : Hid (putSubR s = ([], 4)) := Lib.hid (by unfold putSubR; rw [if_pos ⟨h0, hn⟩])
      rw [HE.out]
      rw [hn] at CN
      clear HE hn h0
      go_enter Tryz.func9, Tryz.ntmps9
      go_wp2_with (go_at_call 30; refine (CN.out _).mono ?_; rintro e w' ⟨rfl, rfl⟩)
      go_ret2
      exact ⟨rfl, Below.refl _ _⟩
    | true =>
      have HE : Hid (putSubR s = objR (subMs s)) := Lib.hid (by unfold putSubR; rw [if_neg (by rw [hn]; simp)])
      rw [HE.out]
      rw [hn] at CN
      obtain ⟨R1, hR1⟩ : ∃ R1, R1 = (objR (subMs s)).1 := ⟨_, rfl⟩
      obtain ⟨R2, hR2⟩ : ∃ R2, R2 = (objR (subMs s)).2 := ⟨_, rfl⟩
      rw [← hR1, ← hR2] at CO
      rw [← hR1, ← hR2]
      clear HE hR1 hR2 hn h0
      go_enter Tryz.func9, Tryz.ntmps9
      go_wp2_with (go_at_call 30; refine (CN.out _).mono ?_; rintro e w' ⟨rfl, rfl⟩)
      refine CT.out.mono ?_
      rintro e w1 ⟨rfl, hb1⟩
      have HB1 := Lib.hid hb1
      have CO1 := Lib.hid (CO.out w1 hb1)
      clear hb1 CT
      go_wp2_with fail
      refine CO1.out.mono ?_
      rintro e w2 ⟨rfl, hb2⟩
      have HX := Lib.hid (HB1.out.trans (hb2.mono HB1.out.size))
      clear hb2 CO1
      go_wp2_with fail
      go_ret2
      exact ⟨rfl, HX.out⟩
end Go.Proofs.YtegblhmcfemfgaaGreatDoor
namespace Go.Proofs.YtegblhmcfemfgaaGreatDoor
open Go.RowKit

def titleN : List UInt8 := [116, 105, 116, 108, 101]
def readN : List UInt8 := [114, 101, 97, 100]
def starN : List UInt8 := [115, 116, 97, 114]
def feedMs (t : List UInt8) (n : Int) : List MemT := [([110], .mk 4 n [] [] []), (titleN, .mk 5 0 t [] [])]
def stateMs (a b : Int) : List MemT := [(readN, .mk 4 a [] [] []), (starN, .mk 4 b [] [] [])]
def badF (t : List UInt8) (n : Int) : Prop := n < 0 ∨ 1000000 < n ∨ 500 < t.length
instance decBadF (t : List UInt8) (n : Int) : Decidable (badF t n) := by unfold badF; infer_instance
def badS (a b : Int) : Prop := a < 0 ∨ 2 < a ∨ b < 0 ∨ 1 < b ∨ (a = 0 ∧ b = 0)
instance decBadS (a b : Int) : Decidable (badS a b) := by unfold badS; infer_instance
def putFeedR (t : List UInt8) (n : Int) : List UInt8 × Int := if badF t n then ([], 4) else objR (feedMs t n)
def putStateR (a b : Int) : List UInt8 × Int := if badS a b then ([], 4) else objR (stateMs a b)
theorem feed_len {t : List UInt8} {n : Int} (hn : ¬ badF t n) (h : mayV (.mk 7 0 [] [] (feedMs t n)) 64 = true) : (prV (.mk 7 0 [] [] (feedMs t n))).length ≤ 1000000 := by
  have hx : txF t = true := by
    simp only [feedMs, mayV, mayM, fitV, Bool.and_eq_true] at h
    simp_all
  have h1 := quo_len t hx
  have h2 : (quo titleN).length = 7 := by decide
  have h3 : (quo [110]).length = 3 := by decide
  have h4 := itoa_len (n := n) (by unfold badF at hn; omega)
  have e1 : prV (.mk 5 0 t [] []) = quo t := rfl
  have e2 : prV (.mk 4 n [] [] []) = Lib.itoa n := rfl
  have e : prV (.mk 7 0 [] [] (feedMs t n)) = 123 :: ((prU (feedMs t n)).drop 1 ++ [125]) := rfl
  rw [e]
  simp [feedMs, prU, e1, e2, h2, h3]
  omega
theorem state_len {a b : Int} (hn : ¬ badS a b) : (prV (.mk 7 0 [] [] (stateMs a b))).length ≤ 1000000 := by
  have h2 : (quo readN).length = 6 := by decide
  have h3 : (quo starN).length = 6 := by decide
  have h4 := itoa_len (n := a) (by unfold badS at hn; omega)
  have h5 := itoa_len (n := b) (by unfold badS at hn; omega)
  have e1 : prV (.mk 4 a [] [] []) = Lib.itoa a := rfl
  have e2 : prV (.mk 4 b [] [] []) = Lib.itoa b := rfl
  have e : prV (.mk 7 0 [] [] (stateMs a b)) = 123 :: ((prU (stateMs a b)).drop 1 ++ [125]) := rfl
  rw [e]
  simp [stateMs, prU, e1, e2, h2, h3]
  omega
theorem st_eql (a b : Int) (W : World) : (binOp .eql 27 (.agg #[.int .i64 a, .int .i64 b]) (.agg #[.int .i64 0, .int .i64 0])).run Tryz.prog W = .ok (.bool ((a == 0) && (b == 0))) W := by
  have hS : Tryz.prog.underlying 27 = some (.struct (Tryz.prog.fieldsOf 27)) := by kernel_rfl
  have hp : Tryz.prog.stoodInHeld 27 = false := by kernel_rfl
  rw [run_eql_struct, show (10000 : Nat) = 9999 + 1 from rfl, run_equalIn_agg W 9999 27 _ _ hS hp]
  simp only [Program.fieldsOf, Tryz.underlying27]
  cases ha : (a == 0) <;> cases hb : (b == 0) <;> (go_simp <;> (try simp_all))
set_option maxRecDepth 100000 in
set_option maxHeartbeats 8000000 in
theorem putFeed_any (t : List UInt8) (n : Int) (w : World) (ht : TabJ w.heap.size w) : Calls Tryz.prog 7 #[.agg #[str t, .int .i64 n]] w fun e w' => e = .returned (.tuple #[str (putFeedR t n).1, .int .i64 (putFeedR t n).2]) ∧ Below w.heap.size w w' := by
  have HT := Lib.hid ht
  obtain ⟨W1, hW1⟩ : ∃ W1, W1 = w.alloc (.cells #[str t, .int .i64 n] 23) := ⟨_, rfl⟩
  have hb1 : Below w.heap.size w W1 := by rw [hW1]; exact below_alloc _ _
  have hbx : W1.heap[w.heap.size]? = some (.cells #[str t, .int .i64 n] 23 (0, 0)) := by rw [hW1]; exact heap_alloc_new _ _
  have p0 := box_cell hbx 0
  have p1 := box_cell hbx 1
  have HW := Lib.hid (And.intro hb1 hbx)
  clear ht hb1 hbx
  by_cases h2 : n < 0
  · have b2 := h2
    have HE : Hid (putFeedR t n = ([], 4)) := Lib.hid (by
      unfold putFeedR
      rw [if_pos (by unfold badF; omega)])
    rw [HE.out]
    have z1 : decide (n < 0) = true := decide_eq_true (by omega)
    clear HE h2 b2
    go_enter Tryz.func7, Tryz.ntmps7
    go_wp2_with fail
    rw [← hW1]
    go_ret2
    exact ⟨rfl, HW.out.1⟩
  · have b2 := h2
    by_cases h4 : 1000000 < n
    · have b4 := h4
      have HE : Hid (putFeedR t n = ([], 4)) := Lib.hid (by
        unfold putFeedR
        rw [if_pos (by unfold badF; omega)])
      rw [HE.out]
      have z1 : decide (n < 0) = false := decide_eq_false (by omega)
      have z2 : decide ((1000000 : Int) < n) = true := decide_eq_true (by omega)
      clear HE h4 b4
      go_enter Tryz.func7, Tryz.ntmps7
      go_wp2_with fail
      rw [← hW1]
      go_ret2
      exact ⟨rfl, HW.out.1⟩
    · have b4 := h4
      by_cases h6 : 500 < t.length
      · have b6 := h6
        have HE : Hid (putFeedR t n = ([], 4)) := Lib.hid (by
          unfold putFeedR
          rw [if_pos (by unfold badF; omega)])
        rw [HE.out]
        have z1 : decide (n < 0) = false := decide_eq_false (by omega)
        have z2 : decide ((1000000 : Int) < n) = false := decide_eq_false (by omega)
        have z3 : decide ((500 : Int) < (t.length : Int)) = true := decide_eq_true (by omega)
        clear HE h6 b6
        go_enter Tryz.func7, Tryz.ntmps7
        go_wp2_with fail
        rw [← hW1]
        go_ret2
        exact ⟨rfl, HW.out.1⟩
      · have b6 := h6
        have hgd : ¬ badF t n := by unfold badF; omega
        have HE : Hid (putFeedR t n = objR (feedMs t n)) := Lib.hid (by
          unfold putFeedR
          rw [if_neg hgd])
        rw [HE.out]
        have z1 : decide (n < 0) = false := decide_eq_false (by omega)
        have z2 : decide ((1000000 : Int) < n) = false := decide_eq_false (by omega)
        have z3 : decide ((500 : Int) < (t.length : Int)) = false := decide_eq_false (by omega)
        have CN : Hid (∀ W, Hid (Below W1.heap.size W1 W) → Calls Tryz.prog 27 #[str [110], .int .i64 n] W fun e w' => e = .returned (.agg #[str [110], .int .i64 4, .int .i64 n, str [], .slice none 0 0, .slice none 0 0]) ∧ Hid (Below W1.heap.size W1 w')) := Lib.hid (fun W hb => (bNumber_any _ _ W).mono (by
          rintro e w' ⟨rfl, h'⟩
          exact ⟨rfl, Lib.hid (hb.out.trans (h'.mono hb.out.size))⟩))
        have CT : Hid (∀ W, Hid (Below W1.heap.size W1 W) → Calls Tryz.prog 28 #[str [116, 105, 116, 108, 101], str t] W fun e w' => e = .returned (.agg #[str [116, 105, 116, 108, 101], .int .i64 5, .int .i64 0, str t, .slice none 0 0, .slice none 0 0]) ∧ Hid (Below W1.heap.size W1 w')) := Lib.hid (fun W hb => (bText_any _ _ W).mono (by
          rintro e w' ⟨rfl, h'⟩
          exact ⟨rfl, Lib.hid (hb.out.trans (h'.mono hb.out.size))⟩))
        have CO : Hid (∀ W, Hid (Below W1.heap.size W1 W) → Calls Tryz.prog 26 #[.slice (some ⟨W.heap.size, 0, none⟩) 2 2] (W.alloc (.cells #[str [110], .int .i64 4, .int .i64 n, str [], .slice none 0 0, .slice none 0 0, str [116, 105, 116, 108, 101], .int .i64 5, .int .i64 0, str t, .slice none 0 0, .slice none 0 0] 74)) fun e w' => e = .returned (.tuple #[str (objR (feedMs t n)).1, .int .i64 (objR (feedMs t n)).2]) ∧ Hid (Below W1.heap.size W1 w')) := Lib.hid (fun W hb => by
          have hb2 := below_alloc W (.cells #[str [110], .int .i64 4, .int .i64 n, str [], .slice none 0 0, .slice none 0 0, str [116, 105, 116, 108, 101], .int .i64 5, .int .i64 0, str t, .slice none 0 0, .slice none 0 0] 74)
          refine (robject_any (F := fun _ => True) (ms := feedMs t n) (rows := [[str [110], .int .i64 4, .int .i64 n, str [], .slice none 0 0, .slice none 0 0], [str [116, 105, 116, 108, 101], .int .i64 5, .int .i64 0, str t, .slice none 0 0, .slice none 0 0]]) (RdFB.lit6 _ (by simp) (heap_alloc_new W _) rfl (by simp) trivial) (by
            unfold feedMs RdM
            refine ⟨⟨_, rfl, plainJ _ _ _ _ _⟩, ?_⟩
            unfold RdM
            refine ⟨⟨_, rfl, plainJ _ _ _ _ _⟩, ?_⟩
            unfold RdM
            trivial) (feed_len hgd) (fun w' h' => HT.out w' (((HW.out.1.trans (hb.out.mono HW.out.1.size)).trans (hb2.mono (Nat.le_trans HW.out.1.size hb.out.size))).trans (h'.mono (Nat.le_trans (Nat.le_trans HW.out.1.size hb.out.size) hb2.size))))).mono ?_
          rintro e w' ⟨rfl, h'⟩
          exact ⟨rfl, Lib.hid ((hb.out.trans (hb2.mono hb.out.size)).trans (h'.mono (Nat.le_trans hb.out.size hb2.size)))⟩)
        obtain ⟨R1, hR1⟩ : ∃ R1, R1 = (objR (feedMs t n)).1 := ⟨_, rfl⟩
        obtain ⟨R2, hR2⟩ : ∃ R2, R2 = (objR (feedMs t n)).2 := ⟨_, rfl⟩
        rw [← hR1, ← hR2] at CO
        rw [← hR1, ← hR2]
        have HB : Hid (Below W1.heap.size W1 W1.drew) := Lib.hid (Below.drewsN (Below.refl _ _) 1)
        have HKS : Hid (∀ W', Below W1.heap.size W1 W' → W'.cell? ⟨w.heap.size, 0, none⟩ = some (str t) ∧ W'.cell? ⟨w.heap.size, 1, none⟩ = some (.int .i64 n)) := Lib.hid (fun W' hb => ⟨(hb.cell (p := ⟨w.heap.size, 0, none⟩) (World.block_lt_of_cell? W1 _ p0)).trans p0, (hb.cell (p := ⟨w.heap.size, 1, none⟩) (World.block_lt_of_cell? W1 _ p1)).trans p1⟩)
        clear HE hR1 hR2 hgd
        go_enter Tryz.func7, Tryz.ntmps7
        go_upto_region 1 with fail
        rw [← hW1]
        clear hW1
        go_wp2_with fail
        go_region_held3 (fun W' => W'.cell? ⟨w.heap.size, 0, none⟩ = some (str t) ∧ W'.cell? ⟨w.heap.size, 1, none⟩ = some (.int .i64 n))
          (first | (exact HKS.out _ HB.out) | (exact HKS.out _ (HB.out.trans ((below_alloc _ _).mono HB.out.size))) | go_keep)
          ((first
            | (go_at_call 27; refine (CN.out _ HB).mono ?_; rintro e w5 ⟨rfl, HB⟩)
            | (go_at_call 28; refine (CT.out _ HB).mono ?_; rintro e w5 ⟨rfl, HB⟩)
            | (go_at_call 26; refine (CO.out _ HB).mono ?_; rintro e w7 ⟨rfl, HB⟩)
            | fail))
        all_goals
          clear p0 p1 HKS
          have HX := Lib.hid (HW.out.1.trans (HB.out.mono HW.out.1.size))
          go_wp2_with fail
          go_ret2
          exact ⟨rfl, HX.out⟩
set_option maxRecDepth 100000 in
set_option maxHeartbeats 8000000 in
theorem putState_any (a b : Int) (w : World) (ht : TabJ w.heap.size w) : Calls Tryz.prog 10 #[.agg #[.int .i64 a, .int .i64 b]] w fun e w' => e = .returned (.tuple #[str (putStateR a b).1, .int .i64 (putStateR a b).2]) ∧ Below w.heap.size w w' := by
  have HT := Lib.hid ht
  obtain ⟨W1, hW1⟩ : ∃ W1, W1 = w.alloc (.cells #[.int .i64 a, .int .i64 b] 27) := ⟨_, rfl⟩
  have hb1 : Below w.heap.size w W1 := by rw [hW1]; exact below_alloc _ _
  have hbx : W1.heap[w.heap.size]? = some (.cells #[.int .i64 a, .int .i64 b] 27 (0, 0)) := by rw [hW1]; exact heap_alloc_new _ _
  have p0 := box_cell hbx 0
  have p1 := box_cell hbx 1
  have HW := Lib.hid (And.intro hb1 hbx)
  clear ht hb1 hbx
  by_cases h2 : a < 0
  · have b2 := h2
    have HE : Hid (putStateR a b = ([], 4)) := Lib.hid (by
      unfold putStateR
      rw [if_pos (by unfold badS; omega)])
    rw [HE.out]
    have z1 : decide (a < 0) = true := decide_eq_true (by omega)
    clear HE h2 b2
    go_enter Tryz.func10, Tryz.ntmps10
    go_wp2_with fail
    rw [← hW1]
    go_ret2
    exact ⟨rfl, HW.out.1⟩
  · have b2 := h2
    by_cases h4 : 2 < a
    · have b4 := h4
      have HE : Hid (putStateR a b = ([], 4)) := Lib.hid (by
        unfold putStateR
        rw [if_pos (by unfold badS; omega)])
      rw [HE.out]
      have z1 : decide (a < 0) = false := decide_eq_false (by omega)
      have z2 : decide ((2 : Int) < a) = true := decide_eq_true (by omega)
      clear HE h4 b4
      go_enter Tryz.func10, Tryz.ntmps10
      go_wp2_with fail
      rw [← hW1]
      go_ret2
      exact ⟨rfl, HW.out.1⟩
    · have b4 := h4
      by_cases h6 : b < 0
      · have b6 := h6
        have HE : Hid (putStateR a b = ([], 4)) := Lib.hid (by
          unfold putStateR
          rw [if_pos (by unfold badS; omega)])
        rw [HE.out]
        have z1 : decide (a < 0) = false := decide_eq_false (by omega)
        have z2 : decide ((2 : Int) < a) = false := decide_eq_false (by omega)
        have z3 : decide (b < 0) = true := decide_eq_true (by omega)
        clear HE h6 b6
        go_enter Tryz.func10, Tryz.ntmps10
        go_wp2_with fail
        rw [← hW1]
        go_ret2
        exact ⟨rfl, HW.out.1⟩
      · have b6 := h6
        by_cases h8 : 1 < b
        · have b8 := h8
          have HE : Hid (putStateR a b = ([], 4)) := Lib.hid (by
            unfold putStateR
            rw [if_pos (by unfold badS; omega)])
          rw [HE.out]
          have z1 : decide (a < 0) = false := decide_eq_false (by omega)
          have z2 : decide ((2 : Int) < a) = false := decide_eq_false (by omega)
          have z3 : decide (b < 0) = false := decide_eq_false (by omega)
          have z4 : decide ((1 : Int) < b) = true := decide_eq_true (by omega)
          clear HE h8 b8
          go_enter Tryz.func10, Tryz.ntmps10
          go_wp2_with fail
          rw [← hW1]
          go_ret2
          exact ⟨rfl, HW.out.1⟩
        · have b8 := h8
          by_cases h10 : a = 0 ∧ b = 0
          · have b10 := h10
            have HE : Hid (putStateR a b = ([], 4)) := Lib.hid (by
              unfold putStateR
              rw [if_pos (by unfold badS; omega)])
            rw [HE.out]
            have z1 : decide (a < 0) = false := decide_eq_false (by omega)
            have z2 : decide ((2 : Int) < a) = false := decide_eq_false (by omega)
            have z3 : decide (b < 0) = false := decide_eq_false (by omega)
            have z4 : decide ((1 : Int) < b) = false := decide_eq_false (by omega)
            have z5 : ((a == 0) && (b == 0)) = true := by simp; omega
            have z6 := fun W => st_eql a b W
            rw [z5] at z6
            clear HE h10 b10
            go_enter Tryz.func10, Tryz.ntmps10
            go_wp2_with fail
            rw [← hW1]
            go_ret2
            exact ⟨rfl, HW.out.1⟩
          · have b10 := h10
            have hgd : ¬ badS a b := by unfold badS; omega
            have HE : Hid (putStateR a b = objR (stateMs a b)) := Lib.hid (by
              unfold putStateR
              rw [if_neg hgd])
            rw [HE.out]
            have z1 : decide (a < 0) = false := decide_eq_false (by omega)
            have z2 : decide ((2 : Int) < a) = false := decide_eq_false (by omega)
            have z3 : decide (b < 0) = false := decide_eq_false (by omega)
            have z4 : decide ((1 : Int) < b) = false := decide_eq_false (by omega)
            have z5 : ((a == 0) && (b == 0)) = false := by simp; omega
            have z6 := fun W => st_eql a b W
            rw [z5] at z6
            have CN : Hid (∀ W, Hid (Below W1.heap.size W1 W) → Calls Tryz.prog 27 #[str [114, 101, 97, 100], .int .i64 a] W fun e w' => e = .returned (.agg #[str [114, 101, 97, 100], .int .i64 4, .int .i64 a, str [], .slice none 0 0, .slice none 0 0]) ∧ Hid (Below W1.heap.size W1 w')) := Lib.hid (fun W hb => (bNumber_any _ _ W).mono (by
              rintro e w' ⟨rfl, h'⟩
              exact ⟨rfl, Lib.hid (hb.out.trans (h'.mono hb.out.size))⟩))
            have CT : Hid (∀ W, Hid (Below W1.heap.size W1 W) → Calls Tryz.prog 27 #[str [115, 116, 97, 114], .int .i64 b] W fun e w' => e = .returned (.agg #[str [115, 116, 97, 114], .int .i64 4, .int .i64 b, str [], .slice none 0 0, .slice none 0 0]) ∧ Hid (Below W1.heap.size W1 w')) := Lib.hid (fun W hb => (bNumber_any _ _ W).mono (by
              rintro e w' ⟨rfl, h'⟩
              exact ⟨rfl, Lib.hid (hb.out.trans (h'.mono hb.out.size))⟩))
            have CO : Hid (∀ W, Hid (Below W1.heap.size W1 W) → Calls Tryz.prog 26 #[.slice (some ⟨W.heap.size, 0, none⟩) 2 2] (W.alloc (.cells #[str [114, 101, 97, 100], .int .i64 4, .int .i64 a, str [], .slice none 0 0, .slice none 0 0, str [115, 116, 97, 114], .int .i64 4, .int .i64 b, str [], .slice none 0 0, .slice none 0 0] 74)) fun e w' => e = .returned (.tuple #[str (objR (stateMs a b)).1, .int .i64 (objR (stateMs a b)).2]) ∧ Hid (Below W1.heap.size W1 w')) := Lib.hid (fun W hb => by
              have hb2 := below_alloc W (.cells #[str [114, 101, 97, 100], .int .i64 4, .int .i64 a, str [], .slice none 0 0, .slice none 0 0, str [115, 116, 97, 114], .int .i64 4, .int .i64 b, str [], .slice none 0 0, .slice none 0 0] 74)
              refine (robject_any (F := fun _ => True) (ms := stateMs a b) (rows := [[str [114, 101, 97, 100], .int .i64 4, .int .i64 a, str [], .slice none 0 0, .slice none 0 0], [str [115, 116, 97, 114], .int .i64 4, .int .i64 b, str [], .slice none 0 0, .slice none 0 0]]) (RdFB.lit6 _ (by simp) (heap_alloc_new W _) rfl (by simp) trivial) (by
                unfold stateMs RdM
                refine ⟨⟨_, rfl, plainJ _ _ _ _ _⟩, ?_⟩
                unfold RdM
                refine ⟨⟨_, rfl, plainJ _ _ _ _ _⟩, ?_⟩
                unfold RdM
                trivial) (fun _ => state_len hgd) (fun w' h' => HT.out w' (((HW.out.1.trans (hb.out.mono HW.out.1.size)).trans (hb2.mono (Nat.le_trans HW.out.1.size hb.out.size))).trans (h'.mono (Nat.le_trans (Nat.le_trans HW.out.1.size hb.out.size) hb2.size))))).mono ?_
              rintro e w' ⟨rfl, h'⟩
              exact ⟨rfl, Lib.hid ((hb.out.trans (hb2.mono hb.out.size)).trans (h'.mono (Nat.le_trans hb.out.size hb2.size)))⟩)
            obtain ⟨R1, hR1⟩ : ∃ R1, R1 = (objR (stateMs a b)).1 := ⟨_, rfl⟩
            obtain ⟨R2, hR2⟩ : ∃ R2, R2 = (objR (stateMs a b)).2 := ⟨_, rfl⟩
            rw [← hR1, ← hR2] at CO
            rw [← hR1, ← hR2]
            have HB : Hid (Below W1.heap.size W1 W1.drew) := Lib.hid (Below.drewsN (Below.refl _ _) 1)
            have HKS : Hid (∀ W', Below W1.heap.size W1 W' → W'.cell? ⟨w.heap.size, 0, none⟩ = some (.int .i64 a) ∧ W'.cell? ⟨w.heap.size, 1, none⟩ = some (.int .i64 b)) := Lib.hid (fun W' hb => ⟨(hb.cell (p := ⟨w.heap.size, 0, none⟩) (World.block_lt_of_cell? W1 _ p0)).trans p0, (hb.cell (p := ⟨w.heap.size, 1, none⟩) (World.block_lt_of_cell? W1 _ p1)).trans p1⟩)
            clear HE hR1 hR2 hgd
            go_enter Tryz.func10, Tryz.ntmps10
            go_upto_region 1 with fail
            rw [← hW1]
            clear hW1
            go_wp2_with fail
            go_region_held3 (fun W' => W'.cell? ⟨w.heap.size, 0, none⟩ = some (.int .i64 a) ∧ W'.cell? ⟨w.heap.size, 1, none⟩ = some (.int .i64 b))
              (first | (exact HKS.out _ HB.out) | (exact HKS.out _ (HB.out.trans ((below_alloc _ _).mono HB.out.size))) | go_keep)
              ((first
                | (go_at_call 27; refine (CN.out _ HB).mono ?_; rintro e w5 ⟨rfl, HB⟩)
                | (go_at_call 27; refine (CT.out _ HB).mono ?_; rintro e w5 ⟨rfl, HB⟩)
                | (go_at_call 26; refine (CO.out _ HB).mono ?_; rintro e w7 ⟨rfl, HB⟩)
                | fail))
            all_goals
              clear p0 p1 HKS
              have HX := Lib.hid (HW.out.1.trans (HB.out.mono HW.out.1.size))
              go_wp2_with fail
              go_ret2
              exact ⟨rfl, HX.out⟩
end Go.Proofs.YtegblhmcfemfgaaGreatDoor
namespace Go.Proofs.YtegblhmcfemfgaaGreatDoor
open Go.RowKit

/-- Two cells stored one behind the other. -/
theorem two_set {w : World} {b : Nat} {x0 x1 : Value} {T : TypeId} (h : w.heap[b]? = some (.cells #[x0, x1] T (0, 0))) (v0 v1 : Value) :
    ((w.setCell ⟨b, 0, none⟩ v0).setCell ⟨b, 1, none⟩ v1).heap[b]? = some (.cells #[v0, v1] T (0, 0)) ∧ Frm (fun i => i = b) w ((w.setCell ⟨b, 0, none⟩ v0).setCell ⟨b, 1, none⟩ v1) :=
  ⟨box_set (box_set h 0 v0) 1 v1, (Frm.set (F := fun i => i = b) v0 rfl).trans (Frm.set (F := fun i => i = b) v1 rfl) (fun _ _ h => h)⟩
/-- Is s the text that is told? -/
def okR (r : List UInt8 × Int) (s : List UInt8) : Bool := (r.2 == 0) && (r.1 == s)
set_option maxRecDepth 100000 in
set_option maxHeartbeats 4000000 in
theorem ifStr_any (s x : List UInt8) (w : World) (hl : x.length ≤ 9223372036854775807) (ht : TabJ w.heap.size w) :
    Calls Tryz.prog 38 #[str s, str x, .func (.func 9) #[] #[]] w fun e w' => e = .returned (.tuple #[str (if okR (putSubR x) s = true then x else []), .bool (okR (putSubR x) s)]) ∧ Below w.heap.size w w' := by
  have CP := putSub_any x w hl ht
  unfold okR
  obtain ⟨R1, hR1⟩ : ∃ R1, R1 = (putSubR x).1 := ⟨_, rfl⟩
  obtain ⟨R2, hR2⟩ : ∃ R2, R2 = (putSubR x).2 := ⟨_, rfl⟩
  rw [← hR1, ← hR2] at CP
  rw [← hR1, ← hR2]
  have CP := Lib.hid CP
  clear hR1 hR2 hl ht
  cases q1 : (R2 == 0) with
  | false =>
    go_enter Tryz.func38, Tryz.ntmps38
    go_wp2_with fail
    refine CP.out.mono ?_
    rintro e w2 ⟨rfl, hb2⟩
    have HX := Lib.hid hb2
    clear hb2 CP
    go_wp2_with fail
    go_ret2
    exact ⟨rfl, HX.out⟩
  | true =>
    cases q2 : (R1 == s) with
    | false =>
      go_enter Tryz.func38, Tryz.ntmps38
      go_wp2_with fail
      refine CP.out.mono ?_
      rintro e w2 ⟨rfl, hb2⟩
      have HX := Lib.hid hb2
      clear hb2 CP
      go_wp2_with fail
      go_ret2
      exact ⟨rfl, HX.out⟩
    | true =>
      go_enter Tryz.func38, Tryz.ntmps38
      go_wp2_with fail
      refine CP.out.mono ?_
      rintro e w2 ⟨rfl, hb2⟩
      have HX := Lib.hid hb2
      clear hb2 CP
      go_wp2_with fail
      go_ret2
      exact ⟨rfl, HX.out⟩
set_option maxRecDepth 100000 in
set_option maxHeartbeats 4000000 in
theorem ifFeed_any (s : List UInt8) (t : List UInt8) (n : Int) (w : World) (ht : TabJ w.heap.size w) :
    Calls Tryz.prog 34 #[str s, .agg #[str t, .int .i64 n], .func (.func 7) #[] #[]] w fun e w' => e = .returned (.tuple #[.agg (if okR (putFeedR t n) s = true then #[str t, .int .i64 n] else #[str [], .int .i64 0]), .bool (okR (putFeedR t n) s)]) ∧ Below w.heap.size w w' := by
  obtain ⟨Wa, hWa⟩ : ∃ Wa, Wa = (w.alloc (.cells #[str t, .int .i64 n] 23)).alloc (.cells #[.string ⟨#[]⟩, .int .i64 0] 23) := ⟨_, rfl⟩
  have HA : Hid (Below w.heap.size w Wa ∧ Wa.heap[w.heap.size]? = some (.cells #[str t, .int .i64 n] 23 (0, 0)) ∧ Wa.heap[w.heap.size + 1]? = some (.cells #[str [], .int .i64 0] 23 (0, 0)) ∧ w.heap.size + 2 ≤ Wa.heap.size) := Lib.hid (by
    refine ⟨by rw [hWa]; exact ((Below.refl _ _).alloc (Nat.le_refl _) _).alloc (by simp) _, by rw [hWa]; exact box_up (heap_alloc_new w _) (below_alloc _ _), ?_, by rw [hWa]; simp⟩
    rw [hWa]
    have := heap_alloc_new (w.alloc (.cells #[str t, .int .i64 n] 23)) (.cells #[.string ⟨#[]⟩, .int .i64 0] 23)
    simpa using this)
  have CP := putFeed_any t n Wa (fun w' h' => ht w' (HA.out.1.trans (h'.mono HA.out.1.size)))
  have q0 := box_cell HA.out.2.1 0
  have q1 := box_cell HA.out.2.1 1
  unfold okR
  obtain ⟨R1, hR1⟩ : ∃ R1, R1 = (putFeedR t n).1 := ⟨_, rfl⟩
  obtain ⟨R2, hR2⟩ : ∃ R2, R2 = (putFeedR t n).2 := ⟨_, rfl⟩
  rw [← hR1, ← hR2] at CP
  rw [← hR1, ← hR2]
  have CP := Lib.hid CP
  clear hR1 hR2 ht
  cases t1 : (R2 == 0) with
  | false =>
    go_enter Tryz.func34, Tryz.ntmps34
    go_upto_region 1 with fail
    rw [← hWa]
    clear hWa
    go_wp2_with fail
    refine CP.out.mono ?_
    rintro e w2 ⟨rfl, hb2⟩
    have hz : (w2.alloc (.cells #[.string ⟨#[]⟩, .int .i64 0] 23)).heap[w.heap.size + 1]? = some (.cells #[str [], .int .i64 0] 23 (0, 0)) := box_up (box_up HA.out.2.2.1 hb2) (below_alloc _ _)
    have d0 := box_cell hz 0
    have d1 := box_cell hz 1
    have df := box_fr hz
    have HB : Hid (Below w.heap.size w (w2.alloc (.cells #[.string ⟨#[]⟩, .int .i64 0] 23)) ∧ w.heap.size + 2 ≤ (w2.alloc (.cells #[.string ⟨#[]⟩, .int .i64 0] 23)).heap.size) := Lib.hid ⟨(HA.out.1.trans (hb2.mono HA.out.1.size)).trans ((below_alloc w2 (.cells #[.string ⟨#[]⟩, .int .i64 0] 23)).mono (Nat.le_trans HA.out.1.size hb2.size)), Nat.le_trans (Nat.le_trans HA.out.2.2.2 hb2.size) (below_alloc w2 (.cells #[.string ⟨#[]⟩, .int .i64 0] 23)).size⟩
    have HZ := Lib.hid hz
    clear hz hb2 CP q0 q1
    go_wp2_with fail
    refine bodyPost_any_world (fun X => X.heap[w.heap.size + 1]? = some (.cells #[str [], .int .i64 0] 23 (0, 0)) ∧ Frm (fun i => i = w.heap.size + 1) (w2.alloc (.cells #[.string ⟨#[]⟩, .int .i64 0] 23)) X) (two_set HZ.out _ _) ?_
    clear d0 d1 df
    rintro w9 ⟨h9, hf9⟩
    have k0 := box_cell h9 0
    have k1 := box_cell h9 1
    refine bodyPost_ret (v := .tuple #[.agg #[str [], .int .i64 0], .bool false]) (by simp [results, Tryz.results34, go_sem, k0, k1]) rfl ?_
    exact ⟨rfl, HB.out.1.trans (hf9.below (by have := HB.out.2; omega) (fun k hk => by omega))⟩
  | true =>
    cases t2 : (R1 == s) with
    | false =>
      go_enter Tryz.func34, Tryz.ntmps34
      go_upto_region 1 with fail
      rw [← hWa]
      clear hWa
      go_wp2_with fail
      refine CP.out.mono ?_
      rintro e w2 ⟨rfl, hb2⟩
      have hz : (w2.alloc (.cells #[.string ⟨#[]⟩, .int .i64 0] 23)).heap[w.heap.size + 1]? = some (.cells #[str [], .int .i64 0] 23 (0, 0)) := box_up (box_up HA.out.2.2.1 hb2) (below_alloc _ _)
      have d0 := box_cell hz 0
      have d1 := box_cell hz 1
      have df := box_fr hz
      have HB : Hid (Below w.heap.size w (w2.alloc (.cells #[.string ⟨#[]⟩, .int .i64 0] 23)) ∧ w.heap.size + 2 ≤ (w2.alloc (.cells #[.string ⟨#[]⟩, .int .i64 0] 23)).heap.size) := Lib.hid ⟨(HA.out.1.trans (hb2.mono HA.out.1.size)).trans ((below_alloc w2 (.cells #[.string ⟨#[]⟩, .int .i64 0] 23)).mono (Nat.le_trans HA.out.1.size hb2.size)), Nat.le_trans (Nat.le_trans HA.out.2.2.2 hb2.size) (below_alloc w2 (.cells #[.string ⟨#[]⟩, .int .i64 0] 23)).size⟩
      have HZ := Lib.hid hz
      clear hz hb2 CP q0 q1
      go_wp2_with fail
      refine bodyPost_any_world (fun X => X.heap[w.heap.size + 1]? = some (.cells #[str [], .int .i64 0] 23 (0, 0)) ∧ Frm (fun i => i = w.heap.size + 1) (w2.alloc (.cells #[.string ⟨#[]⟩, .int .i64 0] 23)) X) (two_set HZ.out _ _) ?_
      clear d0 d1 df
      rintro w9 ⟨h9, hf9⟩
      have k0 := box_cell h9 0
      have k1 := box_cell h9 1
      refine bodyPost_ret (v := .tuple #[.agg #[str [], .int .i64 0], .bool false]) (by simp [results, Tryz.results34, go_sem, k0, k1]) rfl ?_
      exact ⟨rfl, HB.out.1.trans (hf9.below (by have := HB.out.2; omega) (fun k hk => by omega))⟩
    | true =>
      go_enter Tryz.func34, Tryz.ntmps34
      go_upto_region 1 with fail
      rw [← hWa]
      clear hWa
      go_wp2_with fail
      refine CP.out.mono ?_
      rintro e w2 ⟨rfl, hb2⟩
      have hz : w2.heap[w.heap.size + 1]? = some (.cells #[str [], .int .i64 0] 23 (0, 0)) := box_up HA.out.2.2.1 hb2
      have d0 := box_cell hz 0
      have d1 := box_cell hz 1
      have df := box_fr hz
      have p0 := box_cell (box_up HA.out.2.1 hb2) 0
      have p1 := box_cell (box_up HA.out.2.1 hb2) 1
      have HB : Hid (Below w.heap.size w w2 ∧ w.heap.size + 2 ≤ w2.heap.size) := Lib.hid ⟨HA.out.1.trans (hb2.mono HA.out.1.size), Nat.le_trans HA.out.2.2.2 hb2.size⟩
      have HZ := Lib.hid hz
      clear hz hb2 CP q0 q1
      go_wp2_with fail
      refine bodyPost_any_world (fun X => X.heap[w.heap.size + 1]? = some (.cells #[str t, .int .i64 n] 23 (0, 0)) ∧ Frm (fun i => i = w.heap.size + 1) w2 X) (two_set HZ.out _ _) ?_
      clear d0 d1 df p0 p1
      rintro w9 ⟨h9, hf9⟩
      have k0 := box_cell h9 0
      have k1 := box_cell h9 1
      refine bodyPost_ret (v := .tuple #[.agg #[str t, .int .i64 n], .bool true]) (by simp [results, Tryz.results34, go_sem, k0, k1]) rfl ?_
      exact ⟨rfl, HB.out.1.trans (hf9.below (by have := HB.out.2; omega) (fun k hk => by omega))⟩
set_option maxRecDepth 100000 in
set_option maxHeartbeats 4000000 in
theorem ifState_any (s : List UInt8) (a b : Int) (w : World) (ht : TabJ w.heap.size w) :
    Calls Tryz.prog 39 #[str s, .agg #[.int .i64 a, .int .i64 b], .func (.func 10) #[] #[]] w fun e w' => e = .returned (.tuple #[.agg (if okR (putStateR a b) s = true then #[.int .i64 a, .int .i64 b] else #[.int .i64 0, .int .i64 0]), .bool (okR (putStateR a b) s)]) ∧ Below w.heap.size w w' := by
  obtain ⟨Wa, hWa⟩ : ∃ Wa, Wa = (w.alloc (.cells #[.int .i64 a, .int .i64 b] 27)).alloc (.cells #[.int .i64 0, .int .i64 0] 27) := ⟨_, rfl⟩
  have HA : Hid (Below w.heap.size w Wa ∧ Wa.heap[w.heap.size]? = some (.cells #[.int .i64 a, .int .i64 b] 27 (0, 0)) ∧ Wa.heap[w.heap.size + 1]? = some (.cells #[.int .i64 0, .int .i64 0] 27 (0, 0)) ∧ w.heap.size + 2 ≤ Wa.heap.size) := Lib.hid (by
    refine ⟨by rw [hWa]; exact ((Below.refl _ _).alloc (Nat.le_refl _) _).alloc (by simp) _, by rw [hWa]; exact box_up (heap_alloc_new w _) (below_alloc _ _), ?_, by rw [hWa]; simp⟩
    rw [hWa]
    have := heap_alloc_new (w.alloc (.cells #[.int .i64 a, .int .i64 b] 27)) (.cells #[.int .i64 0, .int .i64 0] 27)
    simpa using this)
  have CP := putState_any a b Wa (fun w' h' => ht w' (HA.out.1.trans (h'.mono HA.out.1.size)))
  have q0 := box_cell HA.out.2.1 0
  have q1 := box_cell HA.out.2.1 1
  unfold okR
  obtain ⟨R1, hR1⟩ : ∃ R1, R1 = (putStateR a b).1 := ⟨_, rfl⟩
  obtain ⟨R2, hR2⟩ : ∃ R2, R2 = (putStateR a b).2 := ⟨_, rfl⟩
  rw [← hR1, ← hR2] at CP
  rw [← hR1, ← hR2]
  have CP := Lib.hid CP
  clear hR1 hR2 ht
  cases t1 : (R2 == 0) with
  | false =>
    go_enter Tryz.func39, Tryz.ntmps39
    go_upto_region 1 with fail
    rw [← hWa]
    clear hWa
    go_wp2_with fail
    refine CP.out.mono ?_
    rintro e w2 ⟨rfl, hb2⟩
    have hz : (w2.alloc (.cells #[.int .i64 0, .int .i64 0] 27)).heap[w.heap.size + 1]? = some (.cells #[.int .i64 0, .int .i64 0] 27 (0, 0)) := box_up (box_up HA.out.2.2.1 hb2) (below_alloc _ _)
    have d0 := box_cell hz 0
    have d1 := box_cell hz 1
    have df := box_fr hz
    have HB : Hid (Below w.heap.size w (w2.alloc (.cells #[.int .i64 0, .int .i64 0] 27)) ∧ w.heap.size + 2 ≤ (w2.alloc (.cells #[.int .i64 0, .int .i64 0] 27)).heap.size) := Lib.hid ⟨(HA.out.1.trans (hb2.mono HA.out.1.size)).trans ((below_alloc w2 (.cells #[.int .i64 0, .int .i64 0] 27)).mono (Nat.le_trans HA.out.1.size hb2.size)), Nat.le_trans (Nat.le_trans HA.out.2.2.2 hb2.size) (below_alloc w2 (.cells #[.int .i64 0, .int .i64 0] 27)).size⟩
    have HZ := Lib.hid hz
    clear hz hb2 CP q0 q1
    go_wp2_with fail
    refine bodyPost_any_world (fun X => X.heap[w.heap.size + 1]? = some (.cells #[.int .i64 0, .int .i64 0] 27 (0, 0)) ∧ Frm (fun i => i = w.heap.size + 1) (w2.alloc (.cells #[.int .i64 0, .int .i64 0] 27)) X) (two_set HZ.out _ _) ?_
    clear d0 d1 df
    rintro w9 ⟨h9, hf9⟩
    have k0 := box_cell h9 0
    have k1 := box_cell h9 1
    refine bodyPost_ret (v := .tuple #[.agg #[.int .i64 0, .int .i64 0], .bool false]) (by simp [results, Tryz.results39, go_sem, k0, k1]) rfl ?_
    exact ⟨rfl, HB.out.1.trans (hf9.below (by have := HB.out.2; omega) (fun k hk => by omega))⟩
  | true =>
    cases t2 : (R1 == s) with
    | false =>
      go_enter Tryz.func39, Tryz.ntmps39
      go_upto_region 1 with fail
      rw [← hWa]
      clear hWa
      go_wp2_with fail
      refine CP.out.mono ?_
      rintro e w2 ⟨rfl, hb2⟩
      have hz : (w2.alloc (.cells #[.int .i64 0, .int .i64 0] 27)).heap[w.heap.size + 1]? = some (.cells #[.int .i64 0, .int .i64 0] 27 (0, 0)) := box_up (box_up HA.out.2.2.1 hb2) (below_alloc _ _)
      have d0 := box_cell hz 0
      have d1 := box_cell hz 1
      have df := box_fr hz
      have HB : Hid (Below w.heap.size w (w2.alloc (.cells #[.int .i64 0, .int .i64 0] 27)) ∧ w.heap.size + 2 ≤ (w2.alloc (.cells #[.int .i64 0, .int .i64 0] 27)).heap.size) := Lib.hid ⟨(HA.out.1.trans (hb2.mono HA.out.1.size)).trans ((below_alloc w2 (.cells #[.int .i64 0, .int .i64 0] 27)).mono (Nat.le_trans HA.out.1.size hb2.size)), Nat.le_trans (Nat.le_trans HA.out.2.2.2 hb2.size) (below_alloc w2 (.cells #[.int .i64 0, .int .i64 0] 27)).size⟩
      have HZ := Lib.hid hz
      clear hz hb2 CP q0 q1
      go_wp2_with fail
      refine bodyPost_any_world (fun X => X.heap[w.heap.size + 1]? = some (.cells #[.int .i64 0, .int .i64 0] 27 (0, 0)) ∧ Frm (fun i => i = w.heap.size + 1) (w2.alloc (.cells #[.int .i64 0, .int .i64 0] 27)) X) (two_set HZ.out _ _) ?_
      clear d0 d1 df
      rintro w9 ⟨h9, hf9⟩
      have k0 := box_cell h9 0
      have k1 := box_cell h9 1
      refine bodyPost_ret (v := .tuple #[.agg #[.int .i64 0, .int .i64 0], .bool false]) (by simp [results, Tryz.results39, go_sem, k0, k1]) rfl ?_
      exact ⟨rfl, HB.out.1.trans (hf9.below (by have := HB.out.2; omega) (fun k hk => by omega))⟩
    | true =>
      go_enter Tryz.func39, Tryz.ntmps39
      go_upto_region 1 with fail
      rw [← hWa]
      clear hWa
      go_wp2_with fail
      refine CP.out.mono ?_
      rintro e w2 ⟨rfl, hb2⟩
      have hz : w2.heap[w.heap.size + 1]? = some (.cells #[.int .i64 0, .int .i64 0] 27 (0, 0)) := box_up HA.out.2.2.1 hb2
      have d0 := box_cell hz 0
      have d1 := box_cell hz 1
      have df := box_fr hz
      have p0 := box_cell (box_up HA.out.2.1 hb2) 0
      have p1 := box_cell (box_up HA.out.2.1 hb2) 1
      have HB : Hid (Below w.heap.size w w2 ∧ w.heap.size + 2 ≤ w2.heap.size) := Lib.hid ⟨HA.out.1.trans (hb2.mono HA.out.1.size), Nat.le_trans HA.out.2.2.2 hb2.size⟩
      have HZ := Lib.hid hz
      clear hz hb2 CP q0 q1
      go_wp2_with fail
      refine bodyPost_any_world (fun X => X.heap[w.heap.size + 1]? = some (.cells #[.int .i64 a, .int .i64 b] 27 (0, 0)) ∧ Frm (fun i => i = w.heap.size + 1) w2 X) (two_set HZ.out _ _) ?_
      clear d0 d1 df p0 p1
      rintro w9 ⟨h9, hf9⟩
      have k0 := box_cell h9 0
      have k1 := box_cell h9 1
      refine bodyPost_ret (v := .tuple #[.agg #[.int .i64 a, .int .i64 b], .bool true]) (by simp [results, Tryz.results39, go_sem, k0, k1]) rfl ?_
      exact ⟨rfl, HB.out.1.trans (hf9.below (by have := HB.out.2; omega) (fun k hk => by omega))⟩
end Go.Proofs.YtegblhmcfemfgaaGreatDoor
