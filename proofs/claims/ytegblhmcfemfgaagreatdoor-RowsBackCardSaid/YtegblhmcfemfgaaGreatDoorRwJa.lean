/- Joined: RwObj, TLaw, TRound, JPr, JParM, JCut, JFew, JBackM. -/
import Derived.Test.YtegblhmcfemfgaaGreatDoorJPrn
import Derived.Test.YtegblhmcfemfgaaGreatDoorUnquote
import Derived.Test.YtegblhmcfemfgaaGreatDoorJValP
import Derived.Test.YtegblhmcfemfgaaGreatDoorJDef
import Derived.Deep.CutRange
import Derived.Deep.CutBlock
namespace Go.Proofs.YtegblhmcfemfgaaGreatDoor
open Go.RowKit

theorem RdJ.mk0 {W : World} {F : Nat → Prop} {v : JV} {vl vm : Value} {rl rm : List (List Value)} (h1 : RdFB F 5 W vl rl) (h2 : RdL W F v.l rl) (h3 : RdFB F 6 W vm rm) (h4 : RdM W F v.m rm) :
    RdJ W F v [.int .i64 v.kind, .int .i64 v.n, str v.s, vl, vm] := by
  obtain ⟨k, n, s, l, m⟩ := v
  unfold RdJ
  exact ⟨vl, vm, rfl, ⟨rl, h1, h2⟩, rm, h3, h4⟩
set_option maxHeartbeats 1000000 in
theorem bObject_any (a : Option Addr) (n c : Nat) (w : World) : Calls Tryz.prog 56 #[.slice a n c] w fun e w' => e = .returned (.agg #[.int .i64 7, .int .i64 0, str [], .slice none 0 0, .slice a n c]) ∧ Below w.heap.size w w' := by
  go_enter Tryz.func56, Tryz.ntmps56
  go_wp2_with fail
  exact bodyPost_ret (v := .agg #[.int .i64 7, .int .i64 0, str [], .slice none 0 0, .slice a n c]) (by simp [results, Tryz.results56, go_sem]) rfl ⟨rfl, below_alloc _ _⟩
set_option maxHeartbeats 1000000 in
theorem bList_any (nm : List UInt8) (a : Option Addr) (n c : Nat) (w : World) : Calls Tryz.prog 32 #[str nm, .slice a n c] w fun e w' => e = .returned (.agg #[str nm, .int .i64 6, .int .i64 0, str [], .slice a n c, .slice none 0 0]) ∧ Below w.heap.size w w' := by
  go_enter Tryz.func32, Tryz.ntmps32
  go_wp2_with fail
  exact bodyPost_ret (v := .agg #[str nm, .int .i64 6, .int .i64 0, str [], .slice a n c, .slice none 0 0]) (by simp [results, Tryz.results32, go_sem]) rfl ⟨rfl, below_alloc _ _⟩
set_option maxRecDepth 100000 in
set_option maxHeartbeats 2000000 in
theorem object_yes {F : Nat → Prop} {w : World} {am : Option Addr} {lm cm : Nat} {ms : List MemT} {rows : List (List Value)} (h1 : RdFB F 6 w (.slice am lm cm) rows) (h2 : RdM w F ms rows) (hm : mayV (.mk 7 0 [] [] ms) 64 = true)
    (hl : (prV (.mk 7 0 [] [] ms)).length ≤ 1000000) (ht : TabJ w.heap.size w) :
    Calls Tryz.prog 26 #[.slice am lm cm] w fun e w' => e = .returned (.tuple #[str (prV (.mk 7 0 [] [] ms)), .int .i64 0]) ∧ Below w.heap.size w w' := by
  have HT := Lib.hid ht
  have C1 := Lib.hid (bObject_any am lm cm w)
  have HV : Hid (∀ W, Below w.heap.size w W → RdJ W F (.mk 7 0 [] [] ms) [.int .i64 7, .int .i64 0, str [], .slice none 0 0, .slice am lm cm]) := Lib.hid (fun W hb => RdJ.mk0 (v := .mk 7 0 [] [] ms) (RdFB.nil _ _ _) (by unfold RdL; trivial) (h1.frm (Frm.of_below (F := fun _ => False) hb) (fun _ _ e => e)) (h2.up hb))
  obtain ⟨B, hB⟩ : ∃ B, B = prV (.mk 7 0 [] [] ms) := ⟨_, rfl⟩
  rw [← hB] at hl
  have CP : Hid (∀ W, Below w.heap.size w W → Calls Tryz.prog 55 #[.agg #[.int .i64 7, .int .i64 0, str [], .slice none 0 0, .slice am lm cm]] W fun e w' => ∃ v', e = .returned (.tuple #[v', .int .i64 0]) ∧ Own 5 w' W.heap.size v' B ∧ Below W.heap.size W w') := Lib.hid (fun W hb => by
    rw [hB]
    exact print_yes (HV.out W hb) hm (by rw [← hB]; omega) (fun w' h' => HT.out w' (hb.trans (h'.mono hb.size))))
  rw [← hB]
  clear h1 h2 hm ht hB
  go_enter Tryz.func26, Tryz.ntmps26
  go_wp2_with fail
  refine C1.out.mono ?_
  rintro e w1 ⟨rfl, hb1⟩
  have HB1 := Lib.hid hb1
  have CP1 := Lib.hid (CP.out w1 hb1)
  clear hb1 C1
  go_wp2_with fail
  refine CP1.out.mono ?_
  rintro e w2 ⟨v2, rfl, hown, hb2⟩
  have HB2 := Lib.hid (HB1.out.trans (hb2.mono HB1.out.size))
  have hconv := bt.toString Tryz.underlying9 hown.rd
  obtain ⟨a2, n2, c2, rfl⟩ := hown.form
  clear hb2 CP1 hown
  go_wp2_with fail
  go_ret2
  exact ⟨rfl, HB2.out⟩
end Go.Proofs.YtegblhmcfemfgaaGreatDoor
namespace Go.Proofs.YtegblhmcfemfgaaGreatDoor
open Go.RowKit

theorem tailR_app : ∀ (k : Nat) (t u : List UInt8) (acc a : Nat), tailR k t acc = some a → tailR k (t ++ u) acc = some a
  | 0, _, _, _, _, h => h
  | k + 1, [], _, _, _, h => by simp [tailR] at h
  | k + 1, b :: t, u, acc, a, h => by
    rw [List.cons_append, tailR]
    rw [tailR] at h
    split
    · next h1 => rw [if_pos h1] at h; exact tailR_app k t u _ _ h
    · next h1 => rw [if_neg h1] at h; cases h
theorem tailE_app (k least : Nat) (t u : List UInt8) (acc : Nat) (h : (tailE k least (tailR k t acc)).2 ≠ 0) : tailE k least (tailR k (t ++ u) acc) = tailE k least (tailR k t acc) := by
  cases hr : tailR k t acc with
  | none => rw [hr] at h; simp [tailE] at h
  | some a => rw [tailR_app k t u acc a hr]
theorem sgn_app (a b : List UInt8) (h : (sgn a).2 ≠ 0) : sgn (a ++ b) = sgn a := by
  cases a with
  | nil => simp [sgn] at h
  | cons c t =>
    rw [List.cons_append]
    unfold sgn at h ⊢
    simp only at h ⊢
    split
    · rfl
    · next h1 =>
      rw [if_neg h1] at h
      split
      · next h2 => rw [if_pos h2] at h; exact tailE_app _ _ _ _ _ h
      · next h2 =>
        rw [if_neg h2] at h
        split
        · next h3 => rw [if_pos h3] at h; exact tailE_app _ _ _ _ _ h
        · next h3 =>
          rw [if_neg h3] at h
          split
          · next h4 => rw [if_pos h4] at h; exact tailE_app _ _ _ _ _ h
          · rfl
theorem cnt_app_aux : ∀ (f : Nat) (a b : List UInt8) (n : Nat), a.length ≤ f → cnt a = some n → cnt (a ++ b) = (cnt b).map (· + n)
  | 0, a, b, n, hf, h => by
    obtain rfl := List.eq_nil_of_length_eq_zero (Nat.le_zero.1 hf)
    rw [cnt_nil] at h
    obtain rfl := Option.some.inj h
    simp
  | f + 1, a, b, n, hf, h => by
    by_cases ha : a = []
    · subst ha
      rw [cnt_nil] at h
      obtain rfl := Option.some.inj h
      simp
    · rw [cnt_step a ha] at h
      split at h
      · cases h
      · next hz =>
        have hle := sgn_le a
        rw [cnt_step (a ++ b) (by simp [ha]), sgn_app a b hz, if_neg hz, List.drop_append_of_le_length hle]
        cases hc : cnt (a.drop (sgn a).2) with
        | none => rw [hc] at h; cases h
        | some m =>
          rw [hc] at h
          obtain rfl := Option.some.inj h
          rw [cnt_app_aux f _ b m (by simp; omega) hc, Option.map_map]
          rfl
theorem cnt_app (a b : List UInt8) (n : Nat) (h : cnt a = some n) : cnt (a ++ b) = (cnt b).map (· + n) := cnt_app_aux _ a b n (Nat.le_refl _) h
theorem qbL_app (a b : List UInt8) : qbL (a ++ b) = qbL a ++ qbL b := by simp [qbL]
theorem quoteX (t : List UInt8) : ∃ (x : List UInt8) (e : Int), quoteE t = .returned (.tuple #[str x, .int .i64 e]) ∧ (validB t = true → x = 34 :: qbL t ++ [34] ∧ e = 0) ∧ (validB t = false → x = [] ∧ e = 4) := by
  cases h : validB t
  · exact ⟨[], 4, by rw [quoteE, h]; rfl, (fun h => by cases h), fun _ => ⟨rfl, rfl⟩⟩
  · exact ⟨34 :: qbL t ++ [34], 0, by rw [quoteE, h]; rfl, (fun _ => ⟨rfl, rfl⟩), fun h => by cases h⟩
theorem validB_some {t : List UInt8} (h : validB t = true) : ∃ n, cnt t = some n := Option.isSome_iff_exists.1 h
theorem cntE_some {t : List UInt8} {n : Nat} (h : cnt t = some n) : cntE t = .returned (.int .i64 (n : Int)) := by rw [cntE, h]; rfl
theorem cnt_le : ∀ (f : Nat) (t : List UInt8) (n : Nat), t.length ≤ f → cnt t = some n → n ≤ t.length
  | 0, t, n, hf, h => by
    obtain rfl := List.eq_nil_of_length_eq_zero (Nat.le_zero.1 hf)
    rw [cnt_nil] at h
    obtain rfl := Option.some.inj h
    simp
  | f + 1, t, n, hf, h => by
    by_cases ht : t = []
    · subst ht
      rw [cnt_nil] at h
      obtain rfl := Option.some.inj h
      simp
    · rw [cnt_step t ht] at h
      split at h
      · cases h
      · next hz =>
        have hle := sgn_le t
        cases hc : cnt (t.drop (sgn t).2) with
        | none => rw [hc] at h; cases h
        | some m =>
          rw [hc] at h
          obtain rfl := Option.some.inj h
          have := cnt_le f _ m (by simp; omega) hc
          rw [List.length_drop] at this
          simp only
          omega
theorem str_cat (a b : List UInt8) : ByteArray.mk a.toArray ++ ByteArray.mk b.toArray = ByteArray.mk (a ++ b).toArray := by
  apply ByteArray.ext
  simp
theorem str_cut (t : List UInt8) (p n : Nat) : (ByteArray.mk t.toArray).extract p n = ByteArray.mk ((t.drop p).take (n - p)).toArray := by
  apply ByteArray.ext
  simp [ByteArray.data_extract, List.extract_toArray]
theorem str_of (s : ByteArray) : ∃ l : List UInt8, s = ⟨l.toArray⟩ := ⟨s.data.toList, by cases s; rfl⟩
theorem below_undrew {B : Nat} {w w' : World} (h : Below B w.drew w') : Below B w w' := ⟨h.os, h.tape, h.output, h.size, h.block⟩
end Go.Proofs.YtegblhmcfemfgaaGreatDoor
namespace Go.Proofs.YtegblhmcfemfgaaGreatDoor
open Go.RowKit

theorem sgn_small (c : UInt8) (t : List UInt8) (h : c.toNat < 128) : sgn (c :: t) = (c.toNat, 1) := by rw [sgn, if_pos h]
theorem tailR_bytes : ∀ (k : Nat) (t : List UInt8) (acc a : Nat), tailR k t acc = some a → ∀ b ∈ t.take k, b.toNat / 64 = 2
  | 0, _, _, _, _, b, hb => by simp at hb
  | k + 1, [], _, _, h, _, _ => by simp [tailR] at h
  | k + 1, c :: t, acc, a, h, b, hb => by
    rw [tailR] at h
    split at h
    · next h1 =>
      rw [List.take_succ_cons] at hb
      rcases List.mem_cons.1 hb with rfl | hb
      · exact h1
      · exact tailR_bytes k t _ a h b hb
    · cases h
theorem tailR_take : ∀ (k : Nat) (t : List UInt8) (acc : Nat), tailR k (t.take k) acc = tailR k t acc
  | 0, _, _ => rfl
  | k + 1, [], _ => rfl
  | k + 1, c :: t, acc => by
    rw [List.take_succ_cons, tailR, tailR, tailR_take k t]
/-- A sign of two bytes and more. -/
theorem sgn_big (c : UInt8) (t : List UInt8) (h : 128 ≤ c.toNat) (hz : (sgn (c :: t)).2 ≠ 0) :
    ∃ k least acc a, (sgn (c :: t)) = (a, k + 1) ∧ tailR k t acc = some a ∧ 128 ≤ a ∧ ∀ u, sgn (c :: u) = tailE k least (tailR k u acc) := by
  have key : ∃ k least acc, 128 ≤ least ∧ ∀ u, sgn (c :: u) = tailE k least (tailR k u acc) := by
    rcases (show (192 ≤ c.toNat ∧ c.toNat < 224) ∨ (224 ≤ c.toNat ∧ c.toNat < 240) ∨ (240 ≤ c.toNat ∧ c.toNat < 248) ∨ (c.toNat < 192 ∨ 248 ≤ c.toNat) by omega) with hx | hx | hx | hx
    · exact ⟨1, 128, _, by omega, fun u => by rw [sgn, if_neg (by omega), if_pos hx]⟩
    · exact ⟨2, 2048, _, by omega, fun u => by rw [sgn, if_neg (by omega), if_neg (by omega), if_pos hx]⟩
    · exact ⟨3, 65536, _, by omega, fun u => by rw [sgn, if_neg (by omega), if_neg (by omega), if_neg (by omega), if_pos hx]⟩
    · exfalso; apply hz
      rw [sgn, if_neg (by omega), if_neg (by omega), if_neg (by omega), if_neg (by omega)]
  obtain ⟨k, least, acc, hl, hall⟩ := key
  rw [hall t] at hz ⊢
  cases hr : tailR k t acc with
  | none => rw [hr] at hz; simp [tailE] at hz
  | some a =>
    rw [hr] at hz
    simp only [tailE] at hz ⊢
    by_cases hc : a < least ∨ signB a = false
    · rw [if_pos hc] at hz; simp at hz
    · rw [if_neg hc]
      exact ⟨k, least, acc, a, rfl, hr, by omega, fun u => hall u⟩
theorem sgn_take (t : List UInt8) (hz : (sgn t).2 ≠ 0) : sgn (t.take (sgn t).2) = sgn t := by
  cases t with
  | nil => rfl
  | cons c t =>
    by_cases h : c.toNat < 128
    · rw [sgn_small c t h]
      exact sgn_small c _ h
    · obtain ⟨k, least, acc, a, h1, h2, h3, h4⟩ := sgn_big c t (by omega) hz
      rw [h1]
      simp only
      rw [List.take_succ_cons, h4, tailR_take, ← h4, h1]

theorem qb_plain (c : UInt8) (h1 : 32 ≤ c.toNat) (h2 : c.toNat ≠ 34) (h3 : c.toNat ≠ 92) : qb c = [c] := by
  have : shB c = 0 := by
    unfold shB
    rw [if_neg h2, if_neg h3, if_neg (by omega), if_neg (by omega), if_neg (by omega), if_neg (by omega), if_neg (by omega)]
  rw [qb, if_neg (by simp [this]), if_neg (by omega)]
theorem qbL_plain : ∀ l : List UInt8, (∀ b ∈ l, qb b = [b]) → qbL l = l
  | [], _ => rfl
  | c :: t, h => by
    have h1 := h c (by simp)
    have h2 := qbL_plain t (fun b hb => h b (by simp [hb]))
    simp only [qbL, List.flatMap_cons] at h2 ⊢
    rw [h1, h2]; rfl
theorem short_back : ∀ n : Fin 256, shB (UInt8.ofNat n.val) ≠ 0 → shB (UInt8.ofNat n.val) ≠ 117 ∧ meB (shB (UInt8.ofNat n.val)) = (UInt8.ofNat n.val, true) ∧ n.val < 128 := by decide +kernel
theorem ofNat_self (c : UInt8) : UInt8.ofNat c.toNat = c := by rw [← UInt8.toNat_inj, UInt8.toNat_ofNat']; have := c.toNat_lt; omega
theorem short_back' (c : UInt8) (h : shB c ≠ 0) : shB c ≠ 117 ∧ meB (shB c) = (c, true) ∧ c.toNat < 128 := by
  have := short_back ⟨c.toNat, c.toNat_lt⟩
  simp only [ofNat_self] at this
  exact this h
theorem refD_S : ∀ m : Fin 16, refD (hexS m.val) = (m.val : Int) := by decide
theorem refD_48 : refD 48 = 0 := by decide
theorem four_hex (c : UInt8) (v : List UInt8) : fourR 4 (48 :: 48 :: hexS (c.toNat / 16) :: hexS (c.toNat % 16) :: v) 0 = (c.toNat, 0, 4) := by
  have hc := c.toNat_lt
  have h1 := refD_S ⟨c.toNat / 16, by omega⟩
  have h2 := refD_S ⟨c.toNat % 16, by omega⟩
  simp only at h1 h2
  simp only [fourR, refD_48, h1, h2]
  rw [if_neg (by omega), if_neg (by omega), if_neg (by omega), if_neg (by omega)]
  simp only [Prod.mk.injEq, and_true, Int.toNat_natCast, Int.toNat_zero]
  omega
theorem unit_hex (pre : List UInt8) (c : UInt8) (v : List UInt8) (hc : c.toNat < 32) :
    unitR (pre ++ 48 :: 48 :: hexS (c.toNat / 16) :: hexS (c.toNat % 16) :: v) pre.length = (0, 4, [c]) := by
  have hd : (pre ++ 48 :: 48 :: hexS (c.toNat / 16) :: hexS (c.toNat % 16) :: v).drop pre.length = 48 :: 48 :: hexS (c.toNat / 16) :: hexS (c.toNat % 16) :: v := List.drop_left
  have hs : signB c.toNat = true := by unfold signB; simp; omega
  unfold unitR
  rw [hd, four_hex]
  rw [if_neg (by simp), if_neg (by simp; omega), unitF, if_pos hs, sb, if_pos (by omega), ofNat_self]

theorem at_mid (pre : List UInt8) (c : UInt8) (v : List UInt8) : (pre ++ c :: v)[pre.length]? = some c := by simp
theorem qb_pos (c : UInt8) : 0 < (qb c).length := by
  unfold qb
  split
  · simp
  split
  · simp
  · simp
/-- A sign that is quoted is read back, wherever it stands. -/
theorem step_sign (pre : List UInt8) (c : UInt8) (t rest : List UInt8) (hz : (sgn (c :: t)).2 ≠ 0) :
    stepR (pre ++ (qbL (c :: t) ++ rest)) pre.length = (false, 0, (qbL ((c :: t).take (sgn (c :: t)).2)).length, (c :: t).take (sgn (c :: t)).2) := by
  by_cases hs : shB c = 0
  · by_cases h32 : c.toNat < 32
    · have hsg := sgn_small c t (by omega)
      have hq : qb c = [92, 117, 48, 48, hexS (c.toNat / 16), hexS (c.toNat % 16)] := by rw [qb, if_neg (by simp [hs]), if_pos h32]
      have hql : qbL (c :: t) ++ rest = 92 :: 117 :: 48 :: 48 :: hexS (c.toNat / 16) :: hexS (c.toNat % 16) :: (qbL t ++ rest) := by
        simp only [qbL, List.flatMap_cons, hq]; rfl
      have hu := unit_hex (pre ++ [92, 117]) c (qbL t ++ rest) h32
      have he : pre ++ [92, 117] ++ 48 :: 48 :: hexS (c.toNat / 16) :: hexS (c.toNat % 16) :: (qbL t ++ rest) = pre ++ 92 :: 117 :: 48 :: 48 :: hexS (c.toNat / 16) :: hexS (c.toNat % 16) :: (qbL t ++ rest) := by simp
      have hl : (pre ++ [92, 117]).length = pre.length + 1 + 1 := by simp
      rw [he, hl] at hu
      have h1 : (pre ++ 92 :: 117 :: 48 :: 48 :: hexS (c.toNat / 16) :: hexS (c.toNat % 16) :: (qbL t ++ rest))[pre.length + 1]? = some 117 := by
        simp
      have hesc : escR (pre ++ 92 :: 117 :: 48 :: 48 :: hexS (c.toNat / 16) :: hexS (c.toNat % 16) :: (qbL t ++ rest)) (pre.length + 1) = (0, 5, [c]) := by
        rw [escR, h1]
        simp only
        rw [if_pos trivial, hu]
      rw [hsg, hql, stepR, at_mid]
      simp only
      rw [if_neg (by decide), if_pos trivial, hesc]
      simp [qbL, hq]
    · have h34 : c.toNat ≠ 34 := by intro h; rw [shB, if_pos h] at hs; cases hs
      have h92 : c.toNat ≠ 92 := by intro h; rw [shB, if_neg h34, if_pos h] at hs; cases hs
      have hq : qb c = [c] := qb_plain c (by omega) h34 h92
      obtain ⟨z, hze⟩ : ∃ z, z = (sgn (c :: t)).2 := ⟨_, rfl⟩
      have hzpos : 0 < z := by omega
      have hplain : qbL ((c :: t).take z) = (c :: t).take z := by
        apply qbL_plain
        intro b hb
        by_cases hc : c.toNat < 128
        · rw [sgn_small c t hc] at hze
          subst hze
          simp at hb
          rw [hb]; exact hq
        · obtain ⟨k, least, acc, a, h1, h2, h3, h4⟩ := sgn_big c t (by omega) hz
          rw [h1] at hze
          simp only at hze
          subst hze
          rw [List.take_succ_cons] at hb
          rcases List.mem_cons.1 hb with rfl | hb
          · exact hq
          · have := tailR_bytes k t acc a h2 b hb
            exact qb_plain b (by omega) (by omega) (by omega)
      have hge : 32 ≤ (sgn (c :: t)).1 := by
        by_cases hc : c.toNat < 128
        · rw [sgn_small c t hc]; simp only; omega
        · obtain ⟨k, least, acc, a, h1, h2, h3, h4⟩ := sgn_big c t (by omega) hz
          rw [h1]; simp only; omega
      have hle : z ≤ (c :: t).length := by rw [hze]; exact sgn_le _
      have hu : qbL (c :: t) ++ rest = (c :: t).take z ++ (qbL ((c :: t).drop z) ++ rest) := by
        rw [← List.append_assoc]
        congr 1
        conv => lhs; rw [← List.take_append_drop z (c :: t)]
        rw [qbL_app, hplain]
      have hsg : sgn ((c :: t).take z ++ (qbL ((c :: t).drop z) ++ rest)) = sgn (c :: t) := by
        have h1 := sgn_take (c :: t) hz
        rw [← hze] at h1
        rw [sgn_app _ _ (by rw [h1]; exact hz), h1]
      have hd : (pre ++ ((c :: t).take z ++ (qbL ((c :: t).drop z) ++ rest))).drop pre.length = (c :: t).take z ++ (qbL ((c :: t).drop z) ++ rest) := List.drop_left
      have hlen : ((c :: t).take z).length = z := by rw [List.length_take]; omega
      rw [← hze, hu, hplain, hlen]
      have hat : (pre ++ ((c :: t).take z ++ (qbL ((c :: t).drop z) ++ rest)))[pre.length]? = some c := by
        obtain ⟨y, rfl⟩ : ∃ y, z = y + 1 := ⟨z - 1, by omega⟩
        rw [List.take_succ_cons, List.cons_append]
        exact at_mid _ _ _
      rw [stepR, hat]
      simp only
      rw [if_neg (by intro h; subst h; simp at h34), if_neg (by intro h; subst h; simp at h92), hd, hsg, ← hze, if_neg (by omega)]
      congr 3
      rw [List.take_append_of_le_length (by omega), List.take_of_length_le (by omega)]
  · obtain ⟨h117, hme, h128⟩ := short_back' c hs
    have hsg := sgn_small c t h128
    have hq : qb c = [92, shB c] := by rw [qb, if_pos hs]
    have hql : qbL (c :: t) ++ rest = 92 :: shB c :: (qbL t ++ rest) := by
      simp only [qbL, List.flatMap_cons, hq]; rfl
    have h1 : (pre ++ 92 :: shB c :: (qbL t ++ rest))[pre.length + 1]? = some (shB c) := by
      simp
    have hesc : escR (pre ++ 92 :: shB c :: (qbL t ++ rest)) (pre.length + 1) = (0, 1, [c]) := by
      rw [escR, h1]
      simp only
      rw [if_neg h117, hme]
      simp
    rw [hsg, hql, stepR, at_mid]
    simp only
    rw [if_neg (by decide), if_pos trivial, hesc]
    simp [qbL, hq]

theorem cnt_cons {c : UInt8} {t : List UInt8} (h : validB (c :: t) = true) : (sgn (c :: t)).2 ≠ 0 ∧ validB ((c :: t).drop (sgn (c :: t)).2) = true := by
  rw [validB, cnt_step (c :: t) (by simp)] at h
  split at h
  · cases h
  · next hz => exact ⟨hz, by rw [Option.isSome_map] at h; exact h⟩
/-- A text that is quoted is read back as far as it goes. -/
theorem unq_run : ∀ (n : Nat) (s pre rest o : List UInt8) (f : Nat), s.length ≤ n → validB s = true → (pre ++ (qbL s ++ rest)).length - pre.length < f →
    ∃ f', (pre ++ (qbL s ++ rest)).length - (pre.length + (qbL s).length) < f' ∧ unqF f (pre ++ (qbL s ++ rest)) pre.length o = unqF f' (pre ++ (qbL s ++ rest)) (pre.length + (qbL s).length) (o ++ s)
  | n, [], pre, rest, o, f, _, _, hf => ⟨f, by simpa [qbL] using hf, by simp [qbL]⟩
  | 0, c :: t, _, _, _, _, h, _, _ => by simp at h
  | n + 1, c :: t, pre, rest, o, f, hn, hv, hf => by
    obtain ⟨f, rfl⟩ : ∃ g, f = g + 1 := ⟨f - 1, by omega⟩
    obtain ⟨hz, hv2⟩ := cnt_cons hv
    have hst := step_sign pre c t rest hz
    obtain ⟨z, hze⟩ : ∃ z, z = (sgn (c :: t)).2 := ⟨_, rfl⟩
    rw [← hze] at hst hv2 hz
    have hsplit : qbL (c :: t) = qbL ((c :: t).take z) ++ qbL ((c :: t).drop z) := by rw [← qbL_app, List.take_append_drop]
    have hT : pre ++ (qbL (c :: t) ++ rest) = (pre ++ qbL ((c :: t).take z)) ++ (qbL ((c :: t).drop z) ++ rest) := by rw [hsplit]; simp
    have hpos : 0 < (qbL ((c :: t).take z)).length := by
      obtain ⟨y, rfl⟩ : ∃ y, z = y + 1 := ⟨z - 1, by omega⟩
      rw [List.take_succ_cons]
      simp only [qbL, List.flatMap_cons, List.length_append]
      have := qb_pos c
      omega
    rw [unqF, hst]
    simp only
    rw [if_neg (by simp), if_neg (by simp)]
    have hlen : pre.length + (qbL ((c :: t).take z)).length = (pre ++ qbL ((c :: t).take z)).length := by simp
    have hn' : ((c :: t).drop z).length ≤ n := by rw [List.length_drop]; simp only [List.length_cons] at hn ⊢; omega
    obtain ⟨f', h1, h2⟩ := unq_run n ((c :: t).drop z) (pre ++ qbL ((c :: t).take z)) rest (o ++ (c :: t).take z) f hn' hv2 (by
      rw [← hT, ← hlen]
      rw [hT] at hf ⊢
      simp only [List.length_append] at hf ⊢
      omega)
    rw [← hT] at h1 h2
    have hL : pre.length + (qbL (c :: t)).length = (pre ++ qbL ((c :: t).take z)).length + (qbL ((c :: t).drop z)).length := by rw [hsplit]; simp; omega
    refine ⟨f', ?_, ?_⟩
    · rw [hL]; exact h1
    · rw [hL, hlen, h2, List.append_assoc, List.take_append_drop]
/-- A quoted text is read back, wherever it stands. -/
theorem unq_quoted (ahead s more : List UInt8) (hv : validB s = true) :
    unqR (ahead ++ (34 :: qbL s ++ [34]) ++ more) (ahead.length : Int) = (s, ahead.length + (34 :: qbL s ++ [34]).length, 0) := by
  have hT : ahead ++ (34 :: qbL s ++ [34]) ++ more = (ahead ++ [34]) ++ (qbL s ++ (34 :: more)) := by simp
  rw [hT]
  have hw : wantN ((ahead ++ [34]) ++ (qbL s ++ (34 :: more))) ahead.length 34 = 0 := by
    have : ((ahead ++ [34]) ++ (qbL s ++ (34 :: more)))[ahead.length]? = some 34 := by
      simp
    rw [wantN, if_pos (by simp), this, if_pos rfl]
  obtain ⟨f', h1, h2⟩ := unq_run _ s (ahead ++ [34]) (34 :: more) [] (((ahead ++ [34]) ++ (qbL s ++ (34 :: more))).length + 1) (Nat.le_refl _) hv (by omega)
  obtain ⟨f', rfl⟩ : ∃ g, f' = g + 1 := ⟨f' - 1, by omega⟩
  have hst : stepR ((ahead ++ [34]) ++ (qbL s ++ (34 :: more))) ((ahead ++ [34]).length + (qbL s).length) = (true, 0, 1, []) := by
    have := at_mid ((ahead ++ [34]) ++ qbL s) 34 more
    rw [List.length_append, List.append_assoc] at this
    rw [stepR, this]
    simp
  rw [unqR, if_neg (by simp; omega), Int.toNat_natCast, hw, if_neg (by simp), show ahead.length + 1 = (ahead ++ [34]).length by simp, h2, unqF, hst]
  simp
  omega
/-- Without its end it is too short. -/
theorem unq_cut (s : List UInt8) (hv : validB s = true) : unqR (34 :: qbL s) 0 = ([], 0, 2) := by
  have hT : 34 :: qbL s = [34] ++ (qbL s ++ []) := by simp
  have hw : wantN ([34] ++ (qbL s ++ [])) 0 34 = 0 := by rw [wantN]; simp
  obtain ⟨f', h1, h2⟩ := unq_run _ s [34] [] [] (([34] ++ (qbL s ++ [])).length + 1) (Nat.le_refl _) hv (by omega)
  obtain ⟨f', rfl⟩ : ∃ g, f' = g + 1 := ⟨f' - 1, by omega⟩
  have hst : stepR ([34] ++ (qbL s ++ [])) (([34] : List UInt8).length + (qbL s).length) = (false, 2, 0, []) := by
    have : ([34] ++ (qbL s ++ []))[([34] : List UInt8).length + (qbL s).length]? = none := List.getElem?_eq_none (by simp; omega)
    rw [stepR, this]
  rw [hT, unqR, if_neg (by simp; omega), show (0 : Int).toNat = 0 from rfl, hw, if_neg (by simp), show 0 + 1 = ([34] : List UInt8).length by simp, h2, unqF, hst]
  simp
theorem qb_ge (c : UInt8) : ∀ b ∈ qb c, 32 ≤ b.toNat := by
  have h1 : ∀ n : Fin 256, ∀ b ∈ qb (UInt8.ofNat n.val), 32 ≤ b.toNat := by decide +kernel
  have := h1 ⟨c.toNat, c.toNat_lt⟩
  simpa only [ofNat_self] using this
theorem quoted_ge (s : List UInt8) : ∀ b ∈ 34 :: qbL s ++ [34], 32 ≤ b.toNat := by
  intro b hb
  simp only [List.cons_append, List.mem_cons, List.mem_append, List.not_mem_nil, or_false] at hb
  rcases hb with rfl | hb | rfl
  · decide
  · simp only [qbL, List.mem_flatMap] at hb
    obtain ⟨c, _, hb⟩ := hb
    exact qb_ge c b hb
  · decide
end Go.Proofs.YtegblhmcfemfgaaGreatDoor
namespace Go.Proofs.YtegblhmcfemfgaaGreatDoor
open Go.RowKit

theorem at_pre (pre : List UInt8) (c : UInt8) (t : List UInt8) : (pre ++ c :: t)[pre.length]? = some c := by simp
theorem valP_at {t : List UInt8} {d p : Nat} {c : UInt8} (h : t[p]? = some c) (hc : isBl c = false) : valP t (d + 1) p = casP (lstP (valP t d) t) (objP (valP t d) t) t c p := by
  have hs := skp_no h hc
  rw [valP, hs, h]
theorem behP_end {t : List UInt8} {p : Nat} {c : UInt8} (h : t[p]? = some c) (hc : isBl c = false) : behP t c p = .ok true (p + 1) := by
  unfold behP
  rw [skp_no h hc, h]
  simp
theorem behP_more {t : List UInt8} {p : Nat} {c : UInt8} (h : t[p]? = some 44) (hc : c ≠ 44) : behP t c p = .ok false (p + 1) := by
  unfold behP
  rw [skp_no h (by decide), h]
  simp [Ne.symm hc]
theorem wrdP_pr : ∀ (w pre rest : List UInt8), wrdP (pre ++ (w ++ rest)) w pre.length = 0
  | [], pre, rest => rfl
  | c :: t, pre, rest => by
    rw [wrdP]
    simp only [List.cons_append]
    rw [at_pre]
    dsimp only
    rw [if_pos rfl]
    have := wrdP_pr t (pre ++ [c]) rest
    simpa using this
theorem txtP_pr (pre s rest : List UInt8) (h : txF s = true) : txtP (pre ++ (quo s ++ rest)) pre.length = .ok s (pre.length + (quo s).length) := by
  simp only [txF, Bool.and_eq_true, decide_eq_true_eq] at h
  have hu := unq_quoted pre s rest h.2
  unfold txtP
  have e : pre ++ (quo s ++ rest) = pre ++ (34 :: qbL s ++ [34]) ++ rest := by unfold quo; simp
  rw [e, hu]
  dsimp only
  rw [if_neg (by simp), if_neg (by omega)]
  rfl
theorem mayM_sorted : ∀ (m : List MemT) (p : Option (List UInt8)) (d : Nat), mayM m p d = true → m.Pairwise (fun a b => Op.bytesLess a.1 b.1 = true) ∧ ∀ q, p = some q → ∀ x ∈ m, Op.bytesLess q x.1 = true
  | [], _, _, _ => ⟨List.Pairwise.nil, by simp⟩
  | (nm, v) :: t, p, d, h => by
    simp only [mayM, Bool.and_eq_true] at h
    obtain ⟨⟨⟨h1, _⟩, _⟩, h2⟩ := h
    obtain ⟨h3, h4⟩ := mayM_sorted t (some nm) d h2
    refine ⟨List.pairwise_cons.2 ⟨fun x hx => h4 nm rfl x hx, h3⟩, ?_⟩
    rintro q rfl x hx
    rcases List.mem_cons.1 hx with rfl | hx
    · exact h1
    · exact bl_tr _ _ _ h1 (h4 nm rfl x hx)
theorem mayM_nodup {m : List MemT} {p : Option (List UInt8)} {d : Nat} (h : mayM m p d = true) : (m.map (fun m => m.1)).Nodup := by
  have h1 := (mayM_sorted m p d h).1
  rw [List.Nodup, List.pairwise_map]
  exact h1.imp (fun h e => by rw [e, bl_irr] at h; cases h)
theorem mayM_srt {m : List MemT} {p : Option (List UInt8)} {d : Nat} (h : mayM m p d = true) : srtM m = m := by
  refine (srt_eq (List.Perm.refl m) ?_ (mayM_nodup h)).symm
  exact (mayM_sorted m p d h).1.imp (fun {a b} h => by
    cases h2 : Op.bytesLess b.1 a.1 with
    | false => rfl
    | true => have := bl_tr _ _ _ h h2; rw [bl_irr] at this; cases this)
theorem casP_num {lst : Nat → JR (List JV)} {obj : Nat → JR (List MemT)} {t : List UInt8} {c : UInt8} {p : Nat} (h : c = 45 ∨ dgJ c = true) : casP lst obj t c p = numV (numP t p) := by
  have h1 : c ≠ 91 ∧ c ≠ 123 ∧ c ≠ 34 := by
    rcases h with rfl | h
    · decide
    · refine ⟨?_, ?_, ?_⟩ <;> (rintro rfl; exact absurd h (by decide))
  unfold casP
  rw [if_neg h1.1, if_neg h1.2.1, if_neg h1.2.2, if_pos h]
theorem itoa_head (n : Int) : ∃ c r, Lib.itoa n = c :: r ∧ (c = 45 ∨ dgJ c = true) ∧ isBl c = false := by
  unfold Lib.itoa
  split
  · exact ⟨45, _, rfl, .inl rfl, rfl⟩
  · have hp := dec_ne n.toNat
    obtain ⟨c, r, e⟩ := List.exists_cons_of_length_pos hp
    have hc := dec_dg n.toNat c (by rw [e]; simp)
    refine ⟨c, r, e, .inr hc, ?_⟩
    rw [dgJ_iff] at hc
    simp only [isBl, Bool.or_eq_false_iff, beq_eq_false_iff_ne]
    refine ⟨⟨⟨?_, ?_⟩, ?_⟩, ?_⟩ <;> (rintro rfl; exact absurd hc (by decide))
theorem prV_head {v : JV} {d : Nat} (h : mayV v d = true) : ∃ c r, prV v = c :: r ∧ isBl c = false ∧ c ≠ 93 ∧ c ≠ 125 := by
  obtain ⟨k, n, s, l, m⟩ := v
  simp only [mayV, Bool.and_eq_true, decide_eq_true_eq] at h
  have hk : k = 1 ∨ k = 2 ∨ k = 3 ∨ k = 4 ∨ k = 5 ∨ k = 6 ∨ k = 7 := by omega
  rcases hk with rfl | rfl | rfl | rfl | rfl | rfl | rfl
  · exact ⟨_, _, rfl, by decide, by decide, by decide⟩
  · exact ⟨_, _, rfl, by decide, by decide, by decide⟩
  · exact ⟨_, _, rfl, by decide, by decide, by decide⟩
  · obtain ⟨c, r, e, hc, hb⟩ := itoa_head n
    refine ⟨c, r, e, hb, ?_, ?_⟩ <;> (rintro rfl; exact absurd hc (by decide))
  · exact ⟨_, _, rfl, by decide, by decide, by decide⟩
  · exact ⟨_, _, rfl, by decide, by decide, by decide⟩
  · exact ⟨_, _, rfl, by decide, by decide, by decide⟩
theorem entP_no {t : List UInt8} {p : Nat} {c d : UInt8} (h : t[p + 1]? = some c) (hc : isBl c = false) (hd : c ≠ d) : entP t d p = .ok false (p + 1) := by
  unfold entP
  rw [skp_no h hc, h]
  simp [hd]
theorem entP_yes {t : List UInt8} {p : Nat} {d : UInt8} (h : t[p + 1]? = some d) (hc : isBl d = false) : entP t d p = .ok true (p + 2) := by
  unfold entP
  rw [skp_no h hc, h]
  simp
theorem at_pre1 {pre t : List UInt8} {a c : UInt8} : (pre ++ a :: c :: t)[pre.length + 1]? = some c := by
  rw [List.getElem?_append_right (by omega), Nat.add_sub_cancel_left]
  rfl
theorem lst_pr {l : List JV} {d : Nat} {f : Nat → JR JV} {pre rest T : List UInt8} (hT : T = pre ++ (91 :: ((prT l).drop 1 ++ [93]) ++ rest)) (h : mayL l d = true)
    (hi : l ≠ [] → ∀ n, l.length ≤ n → itsP f T n (pre.length + 1) [] = .ok l (pre.length + 1 + ((prT l).drop 1).length + 1)) : lstP f T pre.length = .ok l (pre.length + (91 :: ((prT l).drop 1 ++ [93])).length) := by
  unfold lstP
  cases l with
  | nil =>
    rw [entP_yes (by rw [hT]; exact at_pre1) (by decide)]
    rfl
  | cons v t =>
    simp only [mayL, Bool.and_eq_true] at h
    obtain ⟨c, r, e, hb, h1, h2⟩ := prV_head h.1
    have hat : T[pre.length + 1]? = some c := by
      rw [hT, prT, List.drop_succ_cons, List.drop_zero, e]
      exact at_pre1
    rw [entP_no hat hb h1]
    dsimp only
    have hlen : (v :: t).length ≤ T.length + 1 := by
      have : ∀ l : List JV, l.length ≤ (prT l).length := by
        intro l
        induction l with
        | nil => simp
        | cons a b ih => rw [prT]; simp; omega
      have := this (v :: t)
      rw [hT]
      simp only [List.length_append, List.length_cons, List.length_drop] at this ⊢
      omega
    rw [hi (by simp) _ hlen]
    simp
    omega
theorem obj_pr {l : List MemT} {d : Nat} {f : Nat → JR JV} {pre rest T : List UInt8} (hT : T = pre ++ (123 :: ((prU l).drop 1 ++ [125]) ++ rest)) (h : mayM l none d = true)
    (hi : l ≠ [] → ∀ n, l.length ≤ n → mesP f T n (pre.length + 1) [] = .ok l (pre.length + 1 + ((prU l).drop 1).length + 1)) : objP f T pre.length = .ok l (pre.length + (123 :: ((prU l).drop 1 ++ [125])).length) := by
  unfold objP
  have hsr := mayM_srt h
  cases l with
  | nil =>
    rw [entP_yes (by rw [hT]; exact at_pre1) (by decide)]
    rfl
  | cons v t =>
    obtain ⟨nm, v⟩ := v
    have hat : T[pre.length + 1]? = some 34 := by
      rw [hT, prU, List.drop_succ_cons, List.drop_zero]
      exact at_pre1
    rw [entP_no hat (by decide) (by decide)]
    dsimp only
    have hlen : ((nm, v) :: t).length ≤ T.length + 1 := by
      have : ∀ l : List MemT, l.length ≤ (prU l).length := by
        intro l
        induction l with
        | nil => simp
        | cons a b ih => obtain ⟨a1, a2⟩ := a; rw [prU]; simp; omega
      have := this ((nm, v) :: t)
      rw [hT]
      simp only [List.length_append, List.length_cons, List.length_drop] at this ⊢
      omega
    rw [hi (by simp) _ hlen]
    dsimp only
    rw [hsr]
    congr 1
    simp
    omega
theorem prT_ne {t : List JV} (h : t ≠ []) : prT t = 44 :: (prT t).drop 1 := by
  cases t with
  | nil => exact absurd rfl h
  | cons v t => rfl
theorem prU_ne {t : List MemT} (h : t ≠ []) : prU t = 44 :: (prU t).drop 1 := by
  cases t with
  | nil => exact absurd rfl h
  | cons v t => rfl
theorem memP_pr {f : Nat → JR JV} {ns : List (List UInt8)} {nm pre rest T : List UInt8} {v : JV} {q : Nat} (hT : T = pre ++ (quo nm ++ 58 :: rest)) (hx : txF nm = true) (hn : nm ∉ ns) (hf : f (pre.length + (quo nm).length + 1) = .ok v q) :
    memP f T ns pre.length = .ok (nm, v) q := by
  have hat : T[pre.length]? = some 34 := by rw [hT]; exact at_pre pre 34 _
  have hs := skp_no hat (by decide)
  have hat2 : T[pre.length + (quo nm).length]? = some 58 := by
    have := at_pre (pre ++ quo nm) 58 rest
    rw [List.length_append, List.append_assoc] at this
    rw [hT]; exact this
  have hs2 := skp_no hat2 (by decide)
  have hlt := (List.getElem?_eq_some_iff.1 hat).1
  have ht := txtP_pr pre nm (58 :: rest) hx
  rw [← hT] at ht
  unfold memP
  rw [hs, if_neg (by omega), ht]
  dsimp only
  rw [if_neg hn, hs2, hat2]
  dsimp only
  rw [if_neg (by simp), hf]
mutual
theorem rd_pr : ∀ (v : JV) (d : Nat) (pre rest T : List UInt8), T = pre ++ (prV v ++ rest) → mayV v d = true → (v.kind = 4 → stopB rest = true) → valP T d pre.length = .ok v (pre.length + (prV v).length)
  | .mk k n s l m, d, pre, rest, T, hT, h, hs => by
    simp only [mayV, fitV, Bool.and_eq_true, Bool.or_eq_true, decide_eq_true_eq] at h
    obtain ⟨⟨⟨⟨⟨hd, hk1⟩, hk7⟩, ⟨⟨⟨⟨⟨⟨hn, hn1⟩, hn2⟩, hS⟩, ht⟩, hl⟩, hm⟩⟩, hL⟩, hM⟩ := h
    obtain ⟨e, rfl⟩ : ∃ e, d = e + 1 := ⟨d - 1, by omega⟩
    simp only [Nat.add_sub_cancel] at hL hM
    have hk : k = 1 ∨ k = 2 ∨ k = 3 ∨ k = 4 ∨ k = 5 ∨ k = 6 ∨ k = 7 := by omega
    rcases hk with rfl | rfl | rfl | rfl | rfl | rfl | rfl
    · obtain rfl : n = 0 := by simpa using hn
      obtain rfl : s = [] := by simpa using hS
      obtain rfl : l = [] := by simpa using hl
      obtain rfl : m = [] := by simpa using hm
      have e1 : prV (.mk 1 0 [] [] []) = [110, 117, 108, 108] := rfl
      rw [e1] at hT ⊢
      rw [valP_at (by rw [hT]; exact at_pre pre 110 _) (by decide)]
      have := wrdP_pr [110, 117, 108, 108] pre rest
      rw [← hT] at this
      simp only [casP]
      rw [if_neg (by decide), if_neg (by decide), if_neg (by decide), if_neg (by decide), if_neg (by decide), if_neg (by decide), if_pos trivial, if_pos this]
      rfl
    · obtain rfl : n = 0 := by simpa using hn
      obtain rfl : s = [] := by simpa using hS
      obtain rfl : l = [] := by simpa using hl
      obtain rfl : m = [] := by simpa using hm
      have e1 : prV (.mk 2 0 [] [] []) = [102, 97, 108, 115, 101] := rfl
      rw [e1] at hT ⊢
      rw [valP_at (by rw [hT]; exact at_pre pre 102 _) (by decide)]
      have := wrdP_pr [102, 97, 108, 115, 101] pre rest
      rw [← hT] at this
      simp only [casP]
      rw [if_neg (by decide), if_neg (by decide), if_neg (by decide), if_neg (by decide), if_neg (by decide), if_pos trivial, if_pos this]
      rfl
    · obtain rfl : n = 0 := by simpa using hn
      obtain rfl : s = [] := by simpa using hS
      obtain rfl : l = [] := by simpa using hl
      obtain rfl : m = [] := by simpa using hm
      have e1 : prV (.mk 3 0 [] [] []) = [116, 114, 117, 101] := rfl
      rw [e1] at hT ⊢
      rw [valP_at (by rw [hT]; exact at_pre pre 116 _) (by decide)]
      have := wrdP_pr [116, 114, 117, 101] pre rest
      rw [← hT] at this
      simp only [casP]
      rw [if_neg (by decide), if_neg (by decide), if_neg (by decide), if_neg (by decide), if_pos trivial, if_pos this]
      rfl
    · obtain rfl : s = [] := by simpa using hS
      obtain rfl : l = [] := by simpa using hl
      obtain rfl : m = [] := by simpa using hm
      have e1 : prV (.mk 4 n [] [] []) = Lib.itoa n := rfl
      rw [e1] at hT ⊢
      obtain ⟨c, r, e2, hc, hb⟩ := itoa_head n
      have hat : T[pre.length]? = some c := by rw [hT, e2]; exact at_pre pre c _
      have := numP_pr pre rest n (hs rfl)
      rw [← hT, if_neg (by omega)] at this
      rw [valP_at hat hb, casP_num hc, this]
      rfl
    · obtain rfl : n = 0 := by simpa using hn
      obtain rfl : l = [] := by simpa using hl
      obtain rfl : m = [] := by simpa using hm
      have e1 : prV (.mk 5 0 s [] []) = quo s := rfl
      rw [e1] at hT ⊢
      have hat : T[pre.length]? = some 34 := by rw [hT]; exact at_pre pre 34 _
      have := txtP_pr pre s rest ht
      rw [← hT] at this
      rw [valP_at hat (by decide)]
      simp only [casP]
      rw [if_neg (by decide), if_neg (by decide), if_pos trivial, this]
      rfl
    · obtain rfl : n = 0 := by simpa using hn
      obtain rfl : s = [] := by simpa using hS
      obtain rfl : m = [] := by simpa using hm
      have e1 : prV (.mk 6 0 [] l []) = 91 :: ((prT l).drop 1 ++ [93]) := rfl
      rw [e1] at hT ⊢
      have hat : T[pre.length]? = some 91 := by rw [hT]; exact at_pre pre 91 _
      rw [valP_at hat (by decide)]
      simp only [casP]
      rw [if_pos trivial, lst_pr hT hL (fun hne n hn => ?_)]
      · rfl
      · have := rd_its l e (pre ++ [91]) rest T [] n (by rw [hT]; simp) hL hne hn
        simpa using this
    · obtain rfl : n = 0 := by simpa using hn
      obtain rfl : s = [] := by simpa using hS
      obtain rfl : l = [] := by simpa using hl
      have e1 : prV (.mk 7 0 [] [] m) = 123 :: ((prU m).drop 1 ++ [125]) := rfl
      rw [e1] at hT ⊢
      have hat : T[pre.length]? = some 123 := by rw [hT]; exact at_pre pre 123 _
      rw [valP_at hat (by decide)]
      simp only [casP]
      rw [if_neg (by decide), if_pos trivial, obj_pr hT hM (fun hne n hn => ?_)]
      · rfl
      · have := rd_mes m none e (pre ++ [123]) rest T [] n (by rw [hT]; simp) hM hne hn (by simpa using mayM_nodup hM)
        simpa using this
theorem rd_its : ∀ (l : List JV) (d : Nat) (pre rest T : List UInt8) (acc : List JV) (n : Nat), T = pre ++ ((prT l).drop 1 ++ (93 :: rest)) → mayL l d = true → l ≠ [] → l.length ≤ n → itsP (valP T d) T n pre.length acc = .ok (acc ++ l) (pre.length + ((prT l).drop 1).length + 1)
  | [], _, _, _, _, _, _, _, _, h, _ => absurd rfl h
  | v :: t, d, pre, rest, T, acc, n, hT, h, _, hn => by
    simp only [mayL, Bool.and_eq_true] at h
    obtain ⟨n, rfl⟩ : ∃ k, n = k + 1 := ⟨n - 1, by simp at hn; omega⟩
    have e0 : (prT (v :: t)).drop 1 = prV v ++ prT t := by rw [prT, List.drop_succ_cons, List.drop_zero]
    rw [e0] at hT ⊢
    have hT1 : T = pre ++ (prV v ++ (prT t ++ 93 :: rest)) := by rw [hT]; simp
    rw [itsP, rd_pr v d pre (prT t ++ 93 :: rest) T hT1 h.1 (fun _ => by cases t <;> rfl)]
    dsimp only
    by_cases ht : t = []
    · subst ht
      have hat : T[pre.length + (prV v).length]? = some 93 := by
        have := at_pre (pre ++ prV v) 93 rest
        rw [List.length_append, List.append_assoc] at this
        rw [hT1]; exact this
      rw [behP_end hat (by decide)]
      simp [prT]
    · have e1 := prT_ne ht
      have hat : T[pre.length + (prV v).length]? = some 44 := by
        have := at_pre (pre ++ prV v) 44 ((prT t).drop 1 ++ 93 :: rest)
        rw [List.length_append, List.append_assoc, ← List.cons_append, ← e1] at this
        rw [hT1]; exact this
      rw [behP_more hat (by decide)]
      dsimp only
      have := rd_its t d (pre ++ (prV v ++ [44])) rest T (acc ++ [v]) n (by rw [hT1, e1]; simp) h.2 ht (by simp at hn; omega)
      have el : (pre ++ (prV v ++ [44])).length = pre.length + (prV v).length + 1 := by simp; omega
      rw [el] at this
      rw [this]
      congr 1
      · simp
      · rw [e1]; simp; omega
theorem rd_mes : ∀ (l : List MemT) (p : Option (List UInt8)) (d : Nat) (pre rest T : List UInt8) (acc : List MemT) (n : Nat), T = pre ++ ((prU l).drop 1 ++ (125 :: rest)) → mayM l p d = true → l ≠ [] → l.length ≤ n → ((acc ++ l).map (fun m => m.1)).Nodup → mesP (valP T d) T n pre.length acc = .ok (acc ++ l) (pre.length + ((prU l).drop 1).length + 1)
  | [], _, _, _, _, _, _, _, _, _, h, _, _ => absurd rfl h
  | (nm, v) :: t, p, d, pre, rest, T, acc, n, hT, h, _, hn, hnd => by
    simp only [mayM, Bool.and_eq_true] at h
    obtain ⟨⟨⟨_, hx⟩, hv⟩, hm⟩ := h
    obtain ⟨n, rfl⟩ : ∃ k, n = k + 1 := ⟨n - 1, by simp at hn; omega⟩
    have e0 : (prU ((nm, v) :: t)).drop 1 = quo nm ++ 58 :: (prV v ++ prU t) := by rw [prU, List.drop_succ_cons, List.drop_zero]
    rw [e0] at hT ⊢
    have hT1 : T = pre ++ (quo nm ++ 58 :: (prV v ++ (prU t ++ 125 :: rest))) := by rw [hT]; simp
    have hT2 : T = (pre ++ (quo nm ++ [58])) ++ (prV v ++ (prU t ++ 125 :: rest)) := by rw [hT]; simp
    have el0 : (pre ++ (quo nm ++ [58])).length = pre.length + (quo nm).length + 1 := by simp; omega
    have hf := rd_pr v d (pre ++ (quo nm ++ [58])) (prU t ++ 125 :: rest) T hT2 hv (fun _ => by rcases t with _ | ⟨⟨a, b⟩, t⟩ <;> rfl)
    rw [el0] at hf
    have hnew : nm ∉ acc.map (fun m => m.1) := by
      rw [List.map_append, List.nodup_append] at hnd
      intro hin
      exact hnd.2.2 nm hin nm (by simp) rfl
    rw [mesP, memP_pr hT1 hx hnew hf]
    dsimp only
    by_cases ht : t = []
    · subst ht
      have hat : T[pre.length + (quo nm).length + 1 + (prV v).length]? = some 125 := by
        have := at_pre (pre ++ (quo nm ++ [58]) ++ prV v) 125 rest
        rw [List.length_append, el0, List.append_assoc] at this
        rw [hT2]; exact this
      rw [behP_end hat (by decide)]
      simp [prU]; omega
    · have e1 := prU_ne ht
      have hat : T[pre.length + (quo nm).length + 1 + (prV v).length]? = some 44 := by
        have := at_pre (pre ++ (quo nm ++ [58]) ++ prV v) 44 ((prU t).drop 1 ++ 125 :: rest)
        rw [List.length_append, el0, List.append_assoc, ← List.cons_append, ← e1] at this
        rw [hT2]; exact this
      rw [behP_more hat (by decide)]
      dsimp only
      have := rd_mes t (some nm) d (pre ++ (quo nm ++ [58]) ++ (prV v ++ [44])) rest T (acc ++ [(nm, v)]) n (by rw [hT2, e1]; simp) hm ht (by simp at hn; omega) (by simpa using hnd)
      have el : (pre ++ (quo nm ++ [58]) ++ (prV v ++ [44])).length = pre.length + (quo nm).length + 1 + (prV v).length + 1 := by simp; omega
      rw [el] at this
      rw [this]
      congr 1
      · simp
      · rw [e1]; simp; omega
end
end Go.Proofs.YtegblhmcfemfgaaGreatDoor
namespace Go.Proofs.YtegblhmcfemfgaaGreatDoor
open Go.RowKit

theorem skp_bls : ∀ (A pre rest : List UInt8), (∀ c ∈ A, isBl c = true) → skp (pre ++ (A ++ rest)) pre.length = skp (pre ++ (A ++ rest)) (pre.length + A.length)
  | [], pre, rest, _ => rfl
  | c :: t, pre, rest, h => by
    have h1 := skp_bl (at_pre pre c (t ++ rest)) (h c (by simp))
    have h2 := skp_bls t (pre ++ [c]) rest (fun x hx => h x (by simp [hx]))
    simp only [List.append_assoc, List.singleton_append, List.length_append, List.length_singleton] at h2
    simp only [List.cons_append, List.length_cons]
    rw [h1, h2]
    congr 1
    omega
theorem valP_skp {t : List UInt8} {p q : Nat} (h : skp t p = q) (hq : skp t q = q) : ∀ d, valP t d p = valP t d q
  | 0 => by rw [valP, valP, h, hq]
  | d + 1 => by rw [valP, valP, h, hq]
theorem skp_all (pre A : List UInt8) (h : ∀ c ∈ A, isBl c = true) : skp (pre ++ A) pre.length = (pre ++ A).length := by
  have := skp_bls A pre [] h
  rw [List.append_nil] at this
  rw [this, ← List.length_append, skp_end]
/-- A value's text, blanks around it. -/
theorem par_any {v : JV} {A B : List UInt8} (hm : mayV v 64 = true) (hA : ∀ c ∈ A, isBl c = true) (hB : ∀ c ∈ B, isBl c = true) (hl : (A ++ (prV v ++ B)).length ≤ 20000) :
    parP (A ++ (prV v ++ B)) = .ok v (A ++ (prV v ++ B)).length := by
  obtain ⟨c, r, e, hb, _, _⟩ := prV_head hm
  have hstop : v.kind = 4 → stopB B = true := by
    intro _
    cases B with
    | nil => rfl
    | cons b t =>
      have := hB b (by simp)
      simp only [isBl, Bool.or_eq_true, beq_iff_eq] at this
      rcases this with ((rfl | rfl) | rfl) | rfl <;> rfl
  have h1 := rd_pr v 64 A B _ rfl hm hstop
  have hat : (A ++ (prV v ++ B))[A.length]? = some c := by rw [e]; exact at_pre A c _
  have hs0 := skp_bls A [] (prV v ++ B) hA
  simp only [List.nil_append, List.length_nil, Nat.zero_add] at hs0
  have hs1 := skp_no hat hb
  rw [hs1] at hs0
  unfold parP
  rw [if_neg (by omega), valP_skp hs0 hs1 64, h1]
  dsimp only
  have hs2 := skp_all (A ++ prV v) B hB
  rw [List.append_assoc, List.length_append] at hs2
  rw [hs2, if_neg (by omega)]
theorem par_pr {v : JV} (hm : mayV v 64 = true) (hl : (prV v).length ≤ 20000) : parP (prV v) = .ok v (prV v).length := by
  have := par_any (A := []) (B := []) hm (by simp) (by simp) (by simpa using hl)
  simpa using this
/-- Lists, or objects, in one another. -/
def nst (o : Bool) : Nat → JV
  | 0 => if o then .mk 7 0 [] [] [] else .mk 6 0 [] [] []
  | k + 1 => if o then .mk 7 0 [] [] [([97], nst o k)] else .mk 6 0 [] [nst o k] []
/-- The text after so many rounds. -/
def nsT (o : Bool) : Nat → List UInt8
  | 0 => []
  | k + 1 => prV (nst o k)
theorem quoA : quo [97] = [34, 97, 34] := by decide
theorem txA : txF [97] = true := by kernel_rfl
theorem nst_pr (o : Bool) (k : Nat) : prV (nst o (k + 1)) = if o then 123 :: 34 :: 97 :: 34 :: 58 :: (prV (nst o k) ++ [125]) else 91 :: (prV (nst o k) ++ [93]) := by
  cases o with
  | true =>
    show 123 :: ((prU [([97], nst true k)]).drop 1 ++ [125]) = _
    simp [prU, quoA]
  | false =>
    show 91 :: ((prT [nst false k]).drop 1 ++ [93]) = _
    simp [prT]
theorem txN : txF [] = true := by kernel_rfl
theorem nst_may (o : Bool) : ∀ (k d : Nat), k < d → mayV (nst o k) d = true
  | 0, d, h => by
    cases o <;> simp [nst, mayV, fitV, mayL, mayM, txN] <;> omega
  | k + 1, d, h => by
    have ih := nst_may o k (d - 1) (by omega)
    cases o <;> simp [nst, mayV, fitV, mayL, mayM, txN, ih, txA, aftB] <;> omega
theorem nst_head (o : Bool) (k : Nat) : ∃ r, prV (nst o k) = (if o then 123 else 91) :: r := by
  cases k with
  | zero => cases o <;> exact ⟨_, rfl⟩
  | succ k => rw [nst_pr]; cases o <;> exact ⟨_, rfl⟩
/-- Nested too deep. -/
theorem nst_deep (o : Bool) : ∀ (d k : Nat) (pre rest T : List UInt8), d ≤ k → T = pre ++ (prV (nst o k) ++ rest) → valP T d pre.length = .err 10
  | 0, k, pre, rest, T, _, hT => by
    obtain ⟨r, e⟩ := nst_head o k
    have hat : T[pre.length]? = some (if o then 123 else 91) := by rw [hT, e]; exact at_pre pre _ _
    have hs := skp_no hat (by cases o <;> decide)
    rw [valP, hs, hat]
    cases o <;> rfl
  | d + 1, k, pre, rest, T, h, hT => by
    obtain ⟨k, rfl⟩ : ∃ j, k = j + 1 := ⟨k - 1, by omega⟩
    obtain ⟨r, e⟩ := nst_head o k
    rw [nst_pr] at hT
    cases o with
    | true =>
      simp only [if_true] at hT e
      have hat : T[pre.length]? = some 123 := by rw [hT]; exact at_pre pre _ _
      rw [valP_at hat (by decide)]
      simp only [casP]
      rw [if_neg (by decide), if_pos trivial]
      have hat1 : T[pre.length + 1]? = some 34 := by rw [hT]; exact at_pre1
      unfold objP
      rw [entP_no hat1 (by decide) (by decide)]
      dsimp only
      obtain ⟨n, hn⟩ : ∃ n, T.length + 1 = n + 1 := ⟨_, rfl⟩
      rw [hn, mesP]
      have ih := nst_deep true d k (pre ++ [123, 34, 97, 34, 58]) ([125] ++ rest) T (by omega) (by rw [hT]; simp)
      have ht := txtP_pr (pre ++ [123]) [97] (58 :: (prV (nst true k) ++ [125] ++ rest)) txA
      have e1 : pre ++ [123] ++ (quo [97] ++ 58 :: (prV (nst true k) ++ [125] ++ rest)) = T := by rw [hT, quoA]; simp
      rw [e1, quoA] at ht
      simp only [List.length_append, List.length_cons, List.length_nil] at ht ih
      have hlt := (List.getElem?_eq_some_iff.1 hat1).1
      have hat2 : T[pre.length + 4]? = some 58 := by
        rw [hT]; simp
      have hm : memP (valP T d) T [] (pre.length + 1) = .err 10 := by
        unfold memP
        rw [skp_no hat1 (by decide), if_neg (by omega), ht]
        dsimp only
        rw [if_neg (by simp), skp_no hat2 (by decide), hat2]
        dsimp only
        rw [if_neg (by simp), ih]
      have hm' : memP (valP T d) T (([] : List MemT).map (fun m => m.1)) (pre.length + 1) = .err 10 := hm
      rw [hm']
      rfl
    | false =>
      have hT : T = pre ++ (91 :: (prV (nst false k) ++ [93]) ++ rest) := hT
      have e : prV (nst false k) = 91 :: r := e
      have hat : T[pre.length]? = some 91 := by rw [hT]; exact at_pre pre _ _
      rw [valP_at hat (by decide)]
      simp only [casP]
      rw [if_pos trivial]
      have hat1 : T[pre.length + 1]? = some 91 := by rw [hT, e]; exact at_pre1
      unfold lstP
      rw [entP_no hat1 (by decide) (by decide)]
      dsimp only
      obtain ⟨n, hn⟩ : ∃ n, T.length + 1 = n + 1 := ⟨_, rfl⟩
      have ih := nst_deep false d k (pre ++ [91]) ([93] ++ rest) T (by omega) (by rw [hT]; simp)
      simp only [List.length_append, List.length_cons, List.length_nil] at ih
      rw [hn, itsP, ih]
      rfl
theorem nsT_len (o : Bool) : ∀ k, (nsT o k).length ≤ 6 * k
  | 0 => Nat.le_refl _
  | 1 => by cases o <;> decide
  | k + 2 => by
    have := nsT_len o (k + 1)
    simp only [nsT] at this ⊢
    rw [nst_pr]
    cases o <;> simp <;> omega
theorem par_nst (o : Bool) (k : Nat) (hk : 1 ≤ k) (hk2 : k ≤ 200) : (k ≤ 64 → parP (nsT o k) = .ok (nst o (k - 1)) (nsT o k).length ∧ mayV (nst o (k - 1)) 64 = true) ∧ (64 < k → parP (nsT o k) = .err 10) := by
  obtain ⟨j, rfl⟩ : ∃ j, k = j + 1 := ⟨k - 1, by omega⟩
  have hl := nsT_len o (j + 1)
  simp only [nsT, Nat.add_sub_cancel] at hl ⊢
  refine ⟨fun h => ⟨par_pr (nst_may o j 64 (by omega)) (by omega), nst_may o j 64 (by omega)⟩, fun h => ?_⟩
  unfold parP
  rw [if_neg (by omega)]
  have := nst_deep o 64 j [] [] (prV (nst o j)) (by omega) (by simp)
  simp only [List.length_nil] at this
  rw [this]
theorem digP_pt (pre rest : List UInt8) (sg : Int) (u : Nat) (c : UInt8) (hc : c = 46 ∨ c = 101 ∨ c = 69) : digP (pre ++ (Lib.decDigits u ++ c :: rest)) sg pre.length = .err 4 := by
  have hd : dgs ((pre ++ (Lib.decDigits u ++ c :: rest)).drop pre.length) = Lib.decDigits u := by
    rw [List.drop_left]
    exact dgs_all _ _ (dec_dg u) (fun d hd => by
      simp only [List.head?_cons, Option.some.injEq] at hd
      subst hd
      rcases hc with rfl | rfl | rfl <;> decide)
  have hp := dec_ne u
  unfold digP
  rw [hd, if_neg (by rw [List.length_append, List.length_append]; omega), if_neg, if_pos]
  · refine ⟨c, ?_, hc⟩
    rw [List.getElem?_append_right (by omega), List.getElem?_append_right (by omega)]
    have e : pre.length + (Lib.decDigits u).length - pre.length - (Lib.decDigits u).length = 0 := by omega
    rw [e]; rfl
  · rintro (h | ⟨h1, h2⟩)
    · omega
    · rw [List.getElem?_append_right (Nat.le_refl _), Nat.sub_self, List.getElem?_append_left hp] at h1
      have := dec_zero u h1
      omega
theorem numP_pt (pre rest : List UInt8) (n : Int) (c : UInt8) (hc : c = 46 ∨ c = 101 ∨ c = 69) : numP (pre ++ (Lib.itoa n ++ c :: rest)) pre.length = .err 4 := by
  unfold numP Lib.itoa
  by_cases h : n < 0
  · rw [if_pos h]
    have e : (pre ++ (45 :: Lib.decDigits n.natAbs ++ c :: rest))[pre.length]? = some 45 := at_pre pre 45 _
    rw [if_pos e]
    have := digP_pt (pre ++ [45]) rest (-1) n.natAbs c hc
    rw [List.append_assoc, List.length_append] at this
    simpa using this
  · rw [if_neg h]
    have hp := dec_ne n.toNat
    have e : ¬ (pre ++ (Lib.decDigits n.toNat ++ c :: rest))[pre.length]? = some 45 := by
      rw [List.getElem?_append_right (Nat.le_refl _), Nat.sub_self, List.getElem?_append_left hp, List.getElem?_eq_getElem hp]
      intro h2
      have := dec_dg n.toNat _ (List.getElem_mem hp)
      rw [Option.some.inj h2] at this
      exact absurd this (by decide)
    rw [if_neg e]
    exact digP_pt pre rest 1 n.toNat c hc
theorem par_of {T : List UInt8} (hl : T.length ≤ 20000) {e : Nat} (h : valP T 64 0 = .err e) : parP T = .err e := by
  unfold parP
  rw [if_neg (by omega), h]
theorem val_num {T : List UInt8} {c : UInt8} {r : List UInt8} (hT : T = c :: r) (hc : c = 45 ∨ dgJ c = true) : valP T 64 0 = numV (numP T 0) := by
  have hb : isBl c = false := by
    rcases hc with rfl | hc
    · rfl
    · rw [dgJ_iff] at hc
      simp only [isBl, Bool.or_eq_false_iff, beq_eq_false_iff_ne]
      refine ⟨⟨⟨?_, ?_⟩, ?_⟩, ?_⟩ <;> (rintro rfl; exact absurd hc (by decide))
  rw [valP_at (c := c) (by rw [hT]; rfl) hb, casP_num hc]
theorem par_num (n : Int) (hl : (Lib.itoa n).length ≤ 100) : parP (Lib.itoa n) = if 9007199254740991 < n ∨ n < -9007199254740991 then .err 1 else .ok (.mk 4 n [] [] []) (Lib.itoa n).length := by
  obtain ⟨c, r, e, hc, _⟩ := itoa_head n
  have h1 := val_num e hc
  have h2 := numP_pr [] [] n rfl
  simp only [List.nil_append, List.append_nil, List.length_nil, Nat.zero_add] at h2
  by_cases h : 9007199254740991 < n ∨ n < -9007199254740991
  · rw [if_pos h] at h2 ⊢
    exact par_of (by omega) (by rw [h1, h2]; rfl)
  · rw [if_neg h] at h2 ⊢
    unfold parP
    rw [if_neg (by omega), h1, h2]
    simp only [numV, skp_end]
    rw [if_neg (by omega)]
theorem par_pt (n : Int) (c : UInt8) (rest : List UInt8) (hc : c = 46 ∨ c = 101 ∨ c = 69) (hl : (Lib.itoa n ++ c :: rest).length ≤ 20000) : parP (Lib.itoa n ++ c :: rest) = .err 4 := by
  obtain ⟨d, r, e, hd, _⟩ := itoa_head n
  have h1 := val_num (T := Lib.itoa n ++ c :: rest) (c := d) (r := r ++ c :: rest) (by rw [e]; rfl) hd
  have h2 := numP_pt [] rest n c hc
  simp only [List.nil_append, List.length_nil] at h2
  exact par_of hl (by rw [h1, h2]; rfl)
theorem par_0 (n : Int) (hl : (Lib.itoa n).length ≤ 100) : parP (48 :: Lib.itoa n) = .err 4 := by
  have h1 := val_num (T := 48 :: Lib.itoa n) rfl (.inr (by decide))
  by_cases h : n < 0
  · have e : Lib.itoa n = 45 :: Lib.decDigits n.natAbs := by unfold Lib.itoa; rw [if_pos h]
    have h2 : numP (48 :: Lib.itoa n) 0 = .ok 0 1 := by
      unfold numP
      rw [if_neg (by simp), e]
      unfold digP
      have hd : dgs ((48 :: 45 :: Lib.decDigits n.natAbs).drop 0) = [48] := by simp [dgs, dgJ]
      rw [hd]
      simp [capF]
    unfold parP
    rw [if_neg (by simp; omega), h1, h2]
    have hs : skp (48 :: Lib.itoa n) 1 = 1 := skp_no (c := 45) (by rw [e]; rfl) (by decide)
    simp only [numV, hs]
    rw [if_pos (by rw [e]; simp)]
  · have e : Lib.itoa n = Lib.decDigits n.toNat := by unfold Lib.itoa; rw [if_neg h]
    have hp := dec_ne n.toNat
    have h2 : numP (48 :: Lib.itoa n) 0 = .err 4 := by
      unfold numP
      rw [if_neg (by simp), e]
      unfold digP
      have hd : dgs ((48 :: Lib.decDigits n.toNat).drop 0) = 48 :: Lib.decDigits n.toNat := by
        have := dgs_all (48 :: Lib.decDigits n.toNat) [] (by intro c hc; rcases List.mem_cons.1 hc with rfl | hc; decide; exact dec_dg _ c hc) (by simp)
        simpa using this
      rw [hd, if_neg (by simp), if_pos (.inr ⟨rfl, by simp; omega⟩)]
    exact par_of (by simp; omega) (by rw [h1, h2]; rfl)
theorem may_num (n : Int) : mayV (.mk 4 n [] [] []) 64 = (decide (-9007199254740991 ≤ n) && decide (n ≤ 9007199254740991)) := by
  simp [mayV, fitV, mayL, mayM, txN]
theorem itoa_len {n : Int} (h : -9223372036854775808 ≤ n ∧ n ≤ 9223372036854775807) : (Lib.itoa n).length ≤ 21 := by
  unfold Lib.itoa
  have hd : ∀ k u : Nat, u < 10 ^ k → 1 ≤ k → Lib.nDigits u ≤ k := by
    intro k
    induction k with
    | zero => intro u _ h; omega
    | succ k ih =>
      intro u hu _
      by_cases hs : u < 10
      · rw [Lib.nDigits_small hs]; omega
      · rw [Lib.nDigits_big hs]
        have hk : 1 ≤ k := by
          rcases k with _ | k
          · simp at hu; omega
          · omega
        have := ih (u / 10) (by rw [Nat.pow_succ] at hu; omega) hk
        omega
  split
  · rw [List.length_cons, Lib.decDigits_length]
    have := hd 20 n.natAbs (by omega) (by omega)
    omega
  · rw [Lib.decDigits_length]
    have := hd 20 n.toNat (by omega) (by omega)
    omega
end Go.Proofs.YtegblhmcfemfgaaGreatDoor
namespace Go.Proofs.YtegblhmcfemfgaaGreatDoor
open Go.RowKit

theorem jsignB_iff (n : Nat) : signB n = true ↔ n < 55296 ∨ (57343 < n ∧ n ≤ 1114111) := by
  unfold signB; simp; omega
theorem joN (n : Nat) (h : n < 256) : (UInt8.ofNat n).toNat = n := by rw [UInt8.toNat_ofNat']; omega
theorem jsgn_sb (n : Nat) (h : signB n = true) : sgn (sb n) = (n, (sb n).length) := by
  have hn := (jsignB_iff n).1 h
  unfold sb
  split
  · rw [sgn, joN n (by omega), if_pos (by omega)]; rfl
  split
  · rw [sgn, joN _ (by omega), if_neg (by omega), if_pos (by omega)]
    simp only [tailR]
    rw [joN _ (by omega), if_pos (by omega)]
    rw [show (192 + n / 64) % 32 * 64 + (128 + n % 64) % 64 = n by omega, tailE_ok (by omega) h]
    rfl
  split
  · rw [sgn, joN _ (by omega), if_neg (by omega), if_neg (by omega), if_pos (by omega)]
    simp only [tailR]
    rw [joN _ (by omega), joN _ (by omega), if_pos (by omega), if_pos (by omega)]
    rw [show ((224 + n / 4096) % 16 * 64 + (128 + n / 64 % 64) % 64) * 64 + (128 + n % 64) % 64 = n by omega, tailE_ok (by omega) h]
    rfl
  · rw [sgn, joN _ (by omega), if_neg (by omega), if_neg (by omega), if_neg (by omega), if_pos (by omega)]
    simp only [tailR]
    rw [joN _ (by omega), joN _ (by omega), joN _ (by omega), if_pos (by omega), if_pos (by omega), if_pos (by omega)]
    rw [show (((240 + n / 262144) % 8 * 64 + (128 + n / 4096 % 64) % 64) * 64 + (128 + n / 64 % 64) % 64) * 64 + (128 + n % 64) % 64 = n by omega, tailE_ok (by omega) h]
    rfl
theorem jsb_pos (n : Nat) : 1 ≤ (sb n).length := by
  unfold sb
  split
  · simp
  split
  · simp
  split
  · simp
  · simp
theorem jcnt_sb (n : Nat) (h : signB n = true) : cnt (sb n) = some 1 := by
  have hp := jsb_pos n
  rw [cnt_step _ (by intro e; rw [e] at hp; simp at hp), jsgn_sb n h, if_neg (by simp only; omega), List.drop_length, cnt_nil]
  rfl
theorem fourR_app : ∀ (k : Nat) (l e : List UInt8) (acc : Nat), (fourR k l acc).2.1 = 0 → fourR k (l ++ e) acc = fourR k l acc
  | 0, l, e, acc, _ => by cases l <;> (cases e <;> rfl)
  | k + 1, [], e, acc, h => by simp [fourR] at h
  | k + 1, c :: l, e, acc, h => by
    simp only [List.cons_append]
    rw [fourR] at h ⊢
    rw [fourR]
    by_cases hd : refD c < 0
    · rw [if_pos hd] at h; cases h
    · rw [if_neg hd] at h ⊢
      rw [if_neg hd, fourR_app k l e _ h]
theorem wantN_app {t e : List UInt8} {p : Nat} {c : UInt8} (h : wantN t p c = 0) : wantN (t ++ e) p c = 0 := by
  have hp := wantN_zero h
  unfold wantN at h ⊢
  rw [if_pos hp] at h
  rw [if_pos (by simp; omega), List.getElem?_append_left hp]
  exact h
theorem secR_app {t e : List UInt8} {p : Nat} (h : (secR t p).2.1 = 0) : secR (t ++ e) p = secR t p := by
  unfold secR at h ⊢
  by_cases h1 : wantN t p 92 ≠ 0
  · rw [if_pos h1] at h; exact absurd h h1
  · rw [if_neg h1] at h ⊢
    have h1' : wantN t p 92 = 0 := by simpa using h1
    rw [if_neg (by rw [wantN_app h1']; simp)]
    by_cases h2 : wantN t (p + 1) 117 ≠ 0
    · rw [if_pos h2] at h; exact absurd h h2
    · rw [if_neg h2] at h ⊢
      have h2' : wantN t (p + 1) 117 = 0 := by simpa using h2
      rw [if_neg (by rw [wantN_app h2']; simp)]
      have h3 : (fourR 4 (t.drop (p + 2)) 0).2.1 = 0 := by
        dsimp only at h
        split at h
        · cases h
        · exact h
      rw [List.drop_append, fourR_app 4 _ _ 0 h3]
theorem unitR_app {t e : List UInt8} {p : Nat} (h : (unitR t p).1 = 0) : unitR (t ++ e) p = unitR t p := by
  unfold unitR at h ⊢
  by_cases h1 : (fourR 4 (t.drop p) 0).2.1 ≠ 0
  · rw [if_pos h1] at h; exact absurd h h1
  · have h1' : (fourR 4 (t.drop p) 0).2.1 = 0 := by simpa using h1
    rw [List.drop_append, fourR_app 4 _ _ 0 h1']
    rw [if_neg h1] at h ⊢
    split at h
    · next h2 =>
      rw [if_pos h2]
      split at h
      · next h3 => exact absurd h h3
      · next h3 =>
        have h3' : (secR t (p + (fourR 4 (t.drop p) 0).2.2)).2.1 = 0 := by simpa using h3
        rw [secR_app h3', if_neg h1, if_pos h2]
    · next h2 => rw [if_neg h2, if_neg h1, if_neg h2]
theorem escR_app {t e : List UInt8} {p : Nat} (h : (escR t p).1 = 0) : escR (t ++ e) p = escR t p := by
  unfold escR at h ⊢
  cases hp : t[p]? with
  | none => rw [hp] at h; cases h
  | some c =>
    have hlt := (List.getElem?_eq_some_iff.1 hp).1
    rw [List.getElem?_append_left hlt, hp]
    rw [hp] at h
    dsimp only at h ⊢
    by_cases hc : c = 117
    · rw [if_pos hc] at h ⊢
      rw [unitR_app h]
      rw [if_pos hc]
    · rw [if_neg hc] at h ⊢
      rw [if_neg hc]
theorem sgn_len : ∀ l : List UInt8, (sgn l).2 ≤ l.length := sgn_le
theorem stepR_app {t e : List UInt8} {p : Nat} (h : (stepR t p).2.1 = 0) : stepR (t ++ e) p = stepR t p := by
  unfold stepR at h ⊢
  cases hp : t[p]? with
  | none => rw [hp] at h; cases h
  | some c =>
    have hlt := (List.getElem?_eq_some_iff.1 hp).1
    rw [List.getElem?_append_left hlt, hp]
    rw [hp] at h
    dsimp only at h ⊢
    by_cases h34 : c = 34
    · rw [if_pos h34, if_pos h34]
    · rw [if_neg h34] at h
      rw [if_neg h34, if_neg h34]
      by_cases h92 : c = 92
      · rw [if_pos h92] at h
        rw [if_pos h92, if_pos h92, escR_app h]
      · rw [if_neg h92] at h
        rw [if_neg h92, if_neg h92]
        by_cases hs : (sgn (t.drop p)).2 = 0 ∨ (sgn (t.drop p)).1 < 32
        · rw [if_pos hs] at h; cases h
        · have hz : (sgn (t.drop p)).2 ≠ 0 := fun h => hs (.inl h)
          have hl := sgn_len (t.drop p)
          rw [List.drop_append, sgn_app _ _ hz, if_neg hs, if_neg hs, List.take_append_of_le_length hl]
theorem unqF_app (e : List UInt8) : ∀ (f g : Nat) (t : List UInt8) (p : Nat) (o : List UInt8), f ≤ g → (unqF f t p o).2.2 = 0 → unqF g (t ++ e) p o = unqF f t p o
  | 0, g, t, p, o, _, h => by simp [unqF] at h
  | f + 1, g, t, p, o, hg, h => by
    obtain ⟨g, rfl⟩ : ∃ k, g = k + 1 := ⟨g - 1, by omega⟩
    rw [unqF] at h
    rw [unqF, unqF]
    by_cases h1 : (stepR t p).2.1 ≠ 0
    · rw [if_pos h1] at h; exact absurd h h1
    · have h1' : (stepR t p).2.1 = 0 := by simpa using h1
      rw [if_neg h1] at h
      rw [stepR_app h1', if_neg h1, if_neg h1]
      by_cases h2 : (stepR t p).1 = true
      · rw [if_pos h2, if_pos h2]
      · rw [if_neg h2] at h
        rw [if_neg h2, if_neg h2]
        exact unqF_app e f g t _ _ (by omega) h
theorem unqR_app {t e : List UInt8} {p : Nat} (h : (unqR t (p : Int)).2.2 = 0) : unqR (t ++ e) (p : Int) = unqR t (p : Int) := by
  unfold unqR at h ⊢
  by_cases h0 : (p : Int) < 0 ∨ (t.length : Int) < (p : Int)
  · rw [if_pos h0] at h; cases h
  · rw [if_neg h0] at h ⊢
    rw [if_neg (by simp; omega)]
    by_cases h1 : wantN t (p : Int).toNat 34 ≠ 0
    · rw [if_pos h1] at h; exact absurd h h1
    · have h1' : wantN t (p : Int).toNat 34 = 0 := by simpa using h1
      rw [if_neg h1] at h ⊢
      rw [if_neg (by rw [wantN_app h1']; simp)]
      exact unqF_app e _ _ t _ _ (by simp) h
theorem validB_app {a b : List UInt8} (ha : validB a = true) (hb : validB b = true) : validB (a ++ b) = true := by
  obtain ⟨n, hn⟩ := validB_some ha
  obtain ⟨m, hm⟩ := validB_some hb
  unfold validB
  rw [cnt_app a b n hn, hm]
  rfl
theorem validB_sb {n : Nat} (h : signB n = true) : validB (sb n) = true := by
  unfold validB
  rw [jcnt_sb n h]
  rfl
theorem validB_take {l : List UInt8} (h : (sgn l).2 ≠ 0) : validB (l.take (sgn l).2) = true := by
  have h1 := sgn_take l h
  have hl := sgn_len l
  obtain ⟨z, hz⟩ : ∃ z, z = (sgn l).2 := ⟨_, rfl⟩
  rw [← hz] at h1 hl h ⊢
  have hlen : (l.take z).length = z := by simp; omega
  obtain ⟨m, hm⟩ : ∃ m, m = l.take z := ⟨_, rfl⟩
  rw [← hm] at h1 hlen ⊢
  have h2 : (sgn m).2 = m.length := by rw [h1, ← hz, hlen]
  cases m with
  | nil => simp at hlen; omega
  | cons c t =>
    unfold validB cnt
    rw [List.length_cons, cntF, if_neg (by rw [h2]; simp), h2, List.drop_length]
    cases t <;> rfl
theorem meB_valid (c : UInt8) (h : (meB c).2 = true) : validB [(meB c).1] = true := by
  have h1 : ∀ k : Fin 256, (meB (UInt8.ofNat k.val)).2 = true → validB [(meB (UInt8.ofNat k.val)).1] = true := by decide +kernel
  have := h1 ⟨c.toNat, c.toNat_lt⟩
  simp only [ofNat_self] at this
  exact this h
theorem unitF_valid {c m : Nat} (h : (unitF c m).1 = 0) : validB (unitF c m).2.2 = true := by
  unfold unitF at h ⊢
  split at h
  · next hs => rw [if_pos hs]; exact validB_sb hs
  · cases h
theorem unitR_valid {t : List UInt8} {p : Nat} (h : (unitR t p).1 = 0) : validB (unitR t p).2.2 = true := by
  unfold unitR at h ⊢
  split at h
  · next h1 => exact absurd h h1
  · next h1 =>
    rw [if_neg h1]
    split at h
    · next h2 =>
      rw [if_pos h2]
      split at h
      · next h3 => exact absurd h h3
      · next h3 => rw [if_neg h3]; exact unitF_valid h
    · next h2 => rw [if_neg h2]; exact unitF_valid h
theorem stepR_valid {t : List UInt8} {p : Nat} (h : (stepR t p).2.1 = 0) : validB (stepR t p).2.2.2 = true := by
  unfold stepR at h ⊢
  cases hp : t[p]? with
  | none => rw [hp] at h; cases h
  | some c =>
    rw [hp] at h
    dsimp only at h ⊢
    split at h
    · next h34 => rw [if_pos h34]; rfl
    · next h34 =>
      rw [if_neg h34]
      split at h
      · next h92 =>
        rw [if_pos h92]
        dsimp only at h ⊢
        unfold escR at h ⊢
        cases hq : t[p + 1]? with
        | none => rw [hq] at h; cases h
        | some d =>
          rw [hq] at h
          dsimp only at h ⊢
          split at h
          · next hd => rw [if_pos hd]; exact unitR_valid h
          · next hd =>
            rw [if_neg hd]
            split at h
            · next hm => rw [if_pos hm]; exact meB_valid d hm
            · cases h
      · next h92 =>
        rw [if_neg h92]
        split at h
        · cases h
        · next hs =>
          rw [if_neg hs]
          exact validB_take (fun e => hs (.inl e))
theorem unqF_valid : ∀ (f : Nat) (t : List UInt8) (p : Nat) (o : List UInt8), validB o = true → (unqF f t p o).2.2 = 0 → validB (unqF f t p o).1 = true
  | 0, t, p, o, _, h => by simp [unqF] at h
  | f + 1, t, p, o, ho, h => by
    rw [unqF] at h ⊢
    split at h
    · next h1 => exact absurd h h1
    · next h1 =>
      have h1' : (stepR t p).2.1 = 0 := by simpa using h1
      have hv := validB_app ho (stepR_valid h1')
      rw [if_neg h1]
      split at h
      · next h2 => rw [if_pos h2]; exact hv
      · next h2 => rw [if_neg h2]; exact unqF_valid f t _ _ hv h
theorem unqR_valid {t : List UInt8} {a : Int} (h : (unqR t a).2.2 = 0) : validB (unqR t a).1 = true := by
  unfold unqR at h ⊢
  split at h
  · cases h
  · next h0 =>
    rw [if_neg h0]
    split at h
    · next h1 => exact absurd h h1
    · next h1 => rw [if_neg h1]; exact unqF_valid _ _ _ _ rfl h
/-- What is told stands whatever stands behind, but for a number at the end. -/
def ExtV (f g : Nat → JR JV) (n : Nat) : Prop := ∀ p v q, f p = .ok v q → q ≤ n ∧ (q < n ∨ v.kind ≠ 4 → g p = .ok v q)
theorem skp_app {t e : List UInt8} {p : Nat} {c : UInt8} (h : t[skp t p]? = some c) : skp (t ++ e) p = skp t p ∧ (t ++ e)[skp t p]? = some c := by
  have hlt := (List.getElem?_eq_some_iff.1 h).1
  refine ⟨?_, by rw [List.getElem?_append_left hlt]; exact h⟩
  have hp : p ≤ t.length := by have := skp_ge t p; omega
  unfold skp at h hlt ⊢
  have key : ∀ l : List UInt8, blk l < l.length → blk (l ++ e) = blk l := by
    intro l
    induction l with
    | nil => intro h; simp [blk] at h
    | cons c t ih =>
      intro h
      simp only [List.cons_append, blk] at h ⊢
      split
      · next hc =>
        rw [if_pos hc] at h
        rw [ih (by simp at h; omega)]
      · rfl
  rw [List.drop_append_of_le_length hp, key _ (by rw [List.length_drop]; omega)]
theorem txtP_app {t e s : List UInt8} {p q : Nat} (h : txtP t p = .ok s q) : txtP (t ++ e) p = .ok s q := by
  unfold txtP at h ⊢
  by_cases h0 : (unqR t (p : Int)).2.2 ≠ 0
  · rw [if_pos h0] at h; cases h
  · have h0' : (unqR t (p : Int)).2.2 = 0 := by simpa using h0
    rw [unqR_app h0']
    exact h
theorem txtP_le {t s : List UInt8} {p q : Nat} (h : txtP t p = .ok s q) : q ≤ t.length ∧ txF s = true := by
  unfold txtP at h
  split at h
  · cases h
  · next h0 =>
    have h0' : (unqR t (p : Int)).2.2 = 0 := by simpa using h0
    split at h
    · cases h
    · next h1 =>
      cases h
      refine ⟨(unqR_len t _).2, ?_⟩
      unfold txF
      rw [unqR_valid h0', Bool.and_true]
      exact decide_eq_true (by omega)
theorem entP_app {t e : List UInt8} {c : UInt8} {p q : Nat} {b : Bool} (h : entP t c p = .ok b q) : entP (t ++ e) c p = .ok b q ∧ q ≤ t.length := by
  unfold entP at h ⊢
  cases hx : t[skp t (p + 1)]? with
  | none => rw [hx] at h; cases h
  | some d =>
    obtain ⟨h1, h2⟩ := skp_app (e := e) hx
    have hlt := (List.getElem?_eq_some_iff.1 hx).1
    rw [h1, h2]
    rw [hx] at h
    refine ⟨h, ?_⟩
    dsimp only at h
    split at h <;> (cases h; omega)
theorem behP_app {t e : List UInt8} {c : UInt8} {p q : Nat} {b : Bool} (h : behP t c p = .ok b q) : behP (t ++ e) c p = .ok b q ∧ q ≤ t.length := by
  unfold behP at h ⊢
  cases hx : t[skp t p]? with
  | none => rw [hx] at h; cases h
  | some d =>
    obtain ⟨h1, h2⟩ := skp_app (e := e) hx
    have hlt := (List.getElem?_eq_some_iff.1 hx).1
    rw [h1, h2]
    rw [hx] at h
    refine ⟨h, ?_⟩
    dsimp only at h
    split at h
    · cases h; omega
    · split at h
      · cases h; omega
      · cases h
theorem itsP_app {t e : List UInt8} {f g : Nat → JR JV} (hf : ExtV f g t.length) (hge : ∀ q v q1, f q = .ok v q1 → q ≤ q1) : ∀ (n m p : Nat) (acc l : List JV) (q : Nat), n ≤ m → itsP f t n p acc = .ok l q → itsP g (t ++ e) m p acc = .ok l q ∧ q ≤ t.length
  | 0, m, p, acc, l, q, _, h => by simp [itsP] at h
  | n + 1, m, p, acc, l, q, hm, h => by
    obtain ⟨m, rfl⟩ : ∃ k, m = k + 1 := ⟨m - 1, by omega⟩
    rw [itsP] at h ⊢
    split at h
    · cases h
    · next v q1 h1 =>
      obtain ⟨hq1, hg⟩ := hf _ _ _ h1
      split at h
      · cases h
      · next r h2 =>
        obtain ⟨b1, b2⟩ := behP_app (e := e) h2
        have := behP_lt h2
        rw [hg (.inl (by omega))]
        dsimp only
        rw [b1]
        cases h
        exact ⟨rfl, b2⟩
      · next r h2 =>
        obtain ⟨b1, b2⟩ := behP_app (e := e) h2
        have := behP_lt h2
        rw [hg (.inl (by omega))]
        dsimp only
        rw [b1]
        dsimp only
        exact itsP_app hf hge n m r _ l q (by omega) h
theorem memP_app {t e : List UInt8} {f g : Nat → JR JV} (hf : ExtV f g t.length) {ns : List (List UInt8)} {p q : Nat} {m : MemT} (h : memP f t ns p = .ok m q) : q ≤ t.length ∧ (q < t.length → memP g (t ++ e) ns p = .ok m q) ∧ txF m.1 = true ∧ m.1 ∉ ns := by
  unfold memP at h ⊢
  split at h
  · cases h
  · next h0 =>
    split at h
    · cases h
    · next name q0 hx =>
      split at h
      · cases h
      · next hn =>
        cases hd : t[skp t q0]? with
        | none => rw [hd] at h; cases h
        | some d =>
          rw [hd] at h
          dsimp only at h
          split at h
          · cases h
          · next hd58 =>
            split at h
            · cases h
            · next v r hv =>
              cases h
              obtain ⟨hq, hg⟩ := hf _ _ _ hv
              have ht := txtP_le hx
              refine ⟨hq, fun hlt => ?_, ht.2, hn⟩
              have hs : skp t p < t.length := by
                have h1 := txtP_ge hx
                omega
              obtain ⟨s1, s2⟩ := skp_app (e := e) (List.getElem?_eq_getElem hs)
              obtain ⟨s3, s4⟩ := skp_app (e := e) hd
              rw [s1, if_neg (by simp; omega), txtP_app hx]
              dsimp only
              rw [if_neg hn, s3, s4]
              dsimp only
              rw [if_neg hd58, hg (.inl hlt)]
theorem mesP_app {t e : List UInt8} {f g : Nat → JR JV} (hf : ExtV f g t.length) : ∀ (n m p : Nat) (acc l : List MemT) (q : Nat), n ≤ m → mesP f t n p acc = .ok l q → mesP g (t ++ e) m p acc = .ok l q ∧ q ≤ t.length
  | 0, m, p, acc, l, q, _, h => by simp [mesP] at h
  | n + 1, m, p, acc, l, q, hm, h => by
    obtain ⟨m, rfl⟩ : ∃ k, m = k + 1 := ⟨m - 1, by omega⟩
    rw [mesP] at h ⊢
    split at h
    · cases h
    · next v q1 h1 =>
      obtain ⟨hq1, hg, _⟩ := memP_app (e := e) hf h1
      split at h
      · cases h
      · next r h2 =>
        obtain ⟨b1, b2⟩ := behP_app (e := e) h2
        have := behP_lt h2
        rw [hg (by omega)]
        dsimp only
        rw [b1]
        cases h
        exact ⟨rfl, b2⟩
      · next r h2 =>
        obtain ⟨b1, b2⟩ := behP_app (e := e) h2
        have := behP_lt h2
        rw [hg (by omega)]
        dsimp only
        rw [b1]
        dsimp only
        exact mesP_app hf n m r _ l q (by omega) h
theorem wrdP_app {e : List UInt8} : ∀ (w t : List UInt8) (p : Nat), wrdP t w p = 0 → wrdP (t ++ e) w p = 0 ∧ (p ≤ t.length → p + w.length ≤ t.length)
  | [], t, p, _ => ⟨rfl, fun h => by simpa using h⟩
  | c :: w, t, p, h => by
    rw [wrdP] at h ⊢
    cases hx : t[p]? with
    | none => rw [hx] at h; cases h
    | some d =>
      have hlt := (List.getElem?_eq_some_iff.1 hx).1
      rw [hx] at h
      rw [List.getElem?_append_left hlt, hx]
      dsimp only at h ⊢
      split at h
      · next hd =>
        rw [if_pos hd]
        obtain ⟨h1, h2⟩ := wrdP_app (e := e) w t (p + 1) h
        exact ⟨h1, fun _ => by have := h2 (by omega); simp; omega⟩
      · cases h
theorem dgs_app {l e : List UInt8} (h : (dgs l).length < l.length) : dgs (l ++ e) = dgs l := by
  induction l with
  | nil => simp at h
  | cons c t ih =>
    simp only [List.cons_append, dgs] at h ⊢
    split
    · next hc =>
      rw [if_pos hc] at h
      rw [ih (by simpa using h)]
    · rfl
theorem digP_app {t e : List UInt8} {sg : Int} {p : Nat} {v : Int} {q : Nat} (h : digP t sg p = .ok v q) : q ≤ t.length ∧ (q < t.length → digP (t ++ e) sg p = .ok v q) := by
  unfold digP at h
  split at h
  · cases h
  · next h0 =>
    split at h
    · cases h
    · next h1 =>
      split at h
      · cases h
      · next h2 =>
        split at h
        · cases h
        · next h3 =>
          cases h
          have hd := dgs_le (t.drop p)
          have hpos : (dgs (t.drop p)).length ≠ 0 := fun e => h1 (.inl e)
          rw [List.length_drop] at hd
          have hp : p < t.length := by omega
          refine ⟨by omega, fun hlt => ?_⟩
          have e1 : dgs ((t ++ e).drop p) = dgs (t.drop p) := by
            rw [List.drop_append_of_le_length (by omega)]
            exact dgs_app (by rw [List.length_drop]; omega)
          unfold digP
          rw [e1, if_neg (by simp; omega), List.getElem?_append_left hp, if_neg h1, List.getElem?_append_left hlt, if_neg h2, if_neg h3]
theorem numP_app {t e : List UInt8} {p : Nat} {v : Int} {q : Nat} (h : numP t p = .ok v q) : q ≤ t.length ∧ (q < t.length → numP (t ++ e) p = .ok v q) := by
  unfold numP at h ⊢
  split at h
  · next h0 =>
    have hlt := (List.getElem?_eq_some_iff.1 h0).1
    rw [List.getElem?_append_left hlt, if_pos h0]
    exact digP_app h
  · next h0 =>
    have hge := digP_ge h
    obtain ⟨h1, h2⟩ := digP_app (e := e) h
    refine ⟨h1, fun hlt => ?_⟩
    rw [List.getElem?_append_left (by omega), if_neg h0]
    exact h2 hlt
theorem lstP_app {t e : List UInt8} {f g : Nat → JR JV} (hf : ExtV f g t.length) (hge : ∀ q v q1, f q = .ok v q1 → q ≤ q1) {p q : Nat} {l : List JV} (h : lstP f t p = .ok l q) : lstP g (t ++ e) p = .ok l q ∧ q ≤ t.length := by
  unfold lstP at h ⊢
  split at h
  · cases h
  · next h1 =>
    obtain ⟨b1, b2⟩ := entP_app (e := e) h1
    rw [b1]
    cases h
    exact ⟨rfl, b2⟩
  · next h1 =>
    obtain ⟨b1, b2⟩ := entP_app (e := e) h1
    rw [b1]
    exact itsP_app hf hge _ _ _ _ _ _ (by simp) h
theorem objP_app {t e : List UInt8} {f g : Nat → JR JV} (hf : ExtV f g t.length) {p q : Nat} {l : List MemT} (h : objP f t p = .ok l q) : objP g (t ++ e) p = .ok l q ∧ q ≤ t.length := by
  unfold objP at h ⊢
  split at h
  · cases h
  · next h1 =>
    obtain ⟨b1, b2⟩ := entP_app (e := e) h1
    rw [b1]
    cases h
    exact ⟨rfl, b2⟩
  · next h1 =>
    obtain ⟨b1, b2⟩ := entP_app (e := e) h1
    rw [b1]
    dsimp only
    split at h
    · cases h
    · next l0 r0 h2 =>
      obtain ⟨c1, c2⟩ := mesP_app (e := e) hf _ ((t ++ e).length + 1) _ _ _ _ (by simp) h2
      rw [c1]
      cases h
      exact ⟨rfl, c2⟩
theorem valP_app (t e : List UInt8) : ∀ d, ExtV (valP t d) (valP (t ++ e) d) t.length
  | 0, p, v, q, h => by
    rw [valP] at h
    split at h
    · cases h
    · split at h <;> cases h
  | d + 1, p, v, q, h => by
    have ih := valP_app t e d
    rw [valP] at h
    cases hx : t[skp t p]? with
    | none => rw [hx] at h; cases h
    | some c =>
      rw [hx] at h
      dsimp only at h
      obtain ⟨s1, s2⟩ := skp_app (e := e) hx
      have hlt := (List.getElem?_eq_some_iff.1 hx).1
      rw [valP, s1, s2]
      dsimp only
      unfold casP at h ⊢
      split at h
      · next h91 =>
        rw [if_pos h91]
        cases hl : lstP (valP t d) t (skp t p) with
        | err z => rw [hl] at h; cases h
        | ok l r =>
          obtain ⟨b1, b2⟩ := lstP_app (e := e) ih (fun q v q1 e => valP_ge t d q v q1 e) hl
          rw [b1]
          rw [hl] at h
          cases h
          exact ⟨b2, fun _ => rfl⟩
      · next h91 =>
        rw [if_neg h91]
        split at h
        · next h123 =>
          rw [if_pos h123]
          cases hl : objP (valP t d) t (skp t p) with
          | err z => rw [hl] at h; cases h
          | ok l r =>
            obtain ⟨b1, b2⟩ := objP_app (e := e) ih hl
            rw [b1]
            rw [hl] at h
            cases h
            exact ⟨b2, fun _ => rfl⟩
        · next h123 =>
          rw [if_neg h123]
          split at h
          · next h34 =>
            rw [if_pos h34]
            cases hl : txtP t (skp t p) with
            | err z => rw [hl] at h; cases h
            | ok l r =>
              rw [txtP_app hl]
              rw [hl] at h
              cases h
              exact ⟨(txtP_le hl).1, fun _ => rfl⟩
          · next h34 =>
            rw [if_neg h34]
            split at h
            · next hn =>
              rw [if_pos hn]
              cases hl : numP t (skp t p) with
              | err z => rw [hl] at h; cases h
              | ok l r =>
                obtain ⟨b1, b2⟩ := numP_app (e := e) hl
                rw [hl] at h
                cases h
                refine ⟨b1, fun hh => ?_⟩
                rcases hh with hh | hh
                · rw [b2 hh]; rfl
                · exact absurd rfl hh
            · next hn =>
              rw [if_neg hn]
              split at h
              · next hc =>
                rw [if_pos hc]
                split at h
                · next hw =>
                  obtain ⟨w1, w2⟩ := wrdP_app (e := e) _ _ _ hw
                  rw [if_pos w1]
                  cases h
                  exact ⟨w2 (by omega), fun _ => rfl⟩
                · cases h
              · next hc =>
                rw [if_neg hc]
                split at h
                · next hc =>
                  rw [if_pos hc]
                  split at h
                  · next hw =>
                    obtain ⟨w1, w2⟩ := wrdP_app (e := e) _ _ _ hw
                    rw [if_pos w1]
                    cases h
                    exact ⟨w2 (by omega), fun _ => rfl⟩
                  · cases h
                · next hc =>
                  rw [if_neg hc]
                  split at h
                  · next hc =>
                    rw [if_pos hc]
                    split at h
                    · next hw =>
                      obtain ⟨w1, w2⟩ := wrdP_app (e := e) _ _ _ hw
                      rw [if_pos w1]
                      cases h
                      exact ⟨w2 (by omega), fun _ => rfl⟩
                    · cases h
                  · cases h
theorem valP_kind4 {t : List UInt8} {d p : Nat} {v : JV} {q : Nat} (h : valP t d p = .ok v q) (hk : v.kind = 4) : ∃ c, t[skp t p]? = some c ∧ (c = 45 ∨ dgJ c = true) := by
  cases d with
  | zero =>
    rw [valP] at h
    split at h
    · cases h
    · split at h <;> cases h
  | succ d =>
    rw [valP] at h
    cases hx : t[skp t p]? with
    | none => rw [hx] at h; cases h
    | some c =>
      rw [hx] at h
      dsimp only at h
      refine ⟨c, rfl, ?_⟩
      unfold casP at h
      split at h
      · cases hl : lstP (valP t d) t (skp t p) with
        | err z => rw [hl] at h; cases h
        | ok l r => rw [hl] at h; cases h; cases hk
      · split at h
        · cases hl : objP (valP t d) t (skp t p) with
          | err z => rw [hl] at h; cases h
          | ok l r => rw [hl] at h; cases h; cases hk
        · split at h
          · cases hl : txtP t (skp t p) with
            | err z => rw [hl] at h; cases h
            | ok l r => rw [hl] at h; cases h; cases hk
          · split at h
            · next hn => exact hn
            · split at h
              · split at h
                · cases h; cases hk
                · cases h
              · split at h
                · split at h
                  · cases h; cases hk
                  · cases h
                · split at h
                  · split at h
                    · cases h; cases hk
                    · cases h
                  · cases h
theorem prV_head4 {v : JV} {d : Nat} (h : mayV v d = true) (h4 : v.kind ≠ 4) : ∃ c r, prV v = c :: r ∧ isBl c = false ∧ ¬ (c = 45 ∨ dgJ c = true) := by
  obtain ⟨k, n, s, l, m⟩ := v
  simp only [mayV, Bool.and_eq_true, decide_eq_true_eq] at h
  have h4 : k ≠ 4 := h4
  have hk : k = 1 ∨ k = 2 ∨ k = 3 ∨ k = 5 ∨ k = 6 ∨ k = 7 := by omega
  rcases hk with rfl | rfl | rfl | rfl | rfl | rfl <;> exact ⟨_, _, rfl, by decide, by decide⟩
/-- Cut off it is none. -/
theorem par_cut {v : JV} (hm : mayV v 64 = true) (h4 : v.kind ≠ 4) {k : Nat} (hk : k < (prV v).length) : ∃ e, parP ((prV v).take k) = .err e := by
  obtain ⟨c, r, e, hb, hc⟩ := prV_head4 hm h4
  have hr := rd_pr v 64 [] [] (prV v) (by simp) hm (fun h => absurd h h4)
  simp only [List.length_nil, Nat.zero_add] at hr
  have hT : prV v = (prV v).take k ++ (prV v).drop k := (List.take_append_drop k _).symm
  have hlen : ((prV v).take k).length = k := by simp; omega
  obtain ⟨t, ht⟩ : ∃ t, t = (prV v).take k := ⟨_, rfl⟩
  rw [← ht] at hT hlen ⊢
  unfold parP
  split
  · exact ⟨3, rfl⟩
  · cases hv : valP t 64 0 with
    | err z => exact ⟨z, rfl⟩
    | ok w q =>
      exfalso
      obtain ⟨h1, h2⟩ := valP_app t ((prV v).drop k) 64 0 w q hv
      have h3 : w.kind ≠ 4 := by
        intro hw
        obtain ⟨d, hd, hd2⟩ := valP_kind4 hv hw
        have hne : t ≠ [] := by
          rintro rfl
          simp at hd
        obtain ⟨a, b, hab⟩ := List.exists_cons_of_ne_nil hne
        have hac : a = c := by
          rw [hab, e] at hT
          simp only [List.cons_append, List.cons.injEq] at hT
          exact hT.1.symm
        have hs : skp t 0 = 0 := skp_no (c := a) (by rw [hab]; rfl) (by rw [hac]; exact hb)
        rw [hs, hab] at hd
        simp only [List.getElem?_cons_zero, Option.some.injEq] at hd
        rw [← hd, hac] at hd2
        exact hc hd2
      have h5 := h2 (.inr h3)
      rw [← hT, hr] at h5
      cases h5
      omega
/-- A word cut off is too short. -/
def isE2 : JR JV → Bool
  | .err e => e == 2
  | _ => false
theorem isE2_eq {r : JR JV} (h : isE2 r = true) : r = .err 2 := by
  cases r with
  | ok v p => cases h
  | err e => rw [eq_of_beq h]
theorem word_cut {v : JV} (hm : mayV v 64 = true) (h3 : v.kind ≤ 3) {k : Nat} (hk : k < (prV v).length) : parP ((prV v).take k) = .err 2 := by
  obtain ⟨kd, n, s, l, m⟩ := v
  simp only [mayV, Bool.and_eq_true, decide_eq_true_eq] at hm
  have h3 : kd ≤ 3 := h3
  have hkd : kd = 1 ∨ kd = 2 ∨ kd = 3 := by omega
  have c1 : ∀ j : Fin 4, isE2 (parP (([110, 117, 108, 108] : List UInt8).take j.val)) = true := by decide +kernel
  have c2 : ∀ j : Fin 5, isE2 (parP (([102, 97, 108, 115, 101] : List UInt8).take j.val)) = true := by decide +kernel
  have c3 : ∀ j : Fin 4, isE2 (parP (([116, 114, 117, 101] : List UInt8).take j.val)) = true := by decide +kernel
  rcases hkd with rfl | rfl | rfl
  · exact isE2_eq (c1 ⟨k, hk⟩)
  · exact isE2_eq (c2 ⟨k, hk⟩)
  · exact isE2_eq (c3 ⟨k, hk⟩)
/-- One byte more. -/
theorem par_more {v : JV} (hm : mayV v 64 = true) (h4 : v.kind ≠ 4) (hl : (prV v).length ≤ 15000) (c : UInt8) : parP (prV v ++ [c]) = if isBl c = true then .ok v ((prV v).length + 1) else .err 4 := by
  by_cases hb : isBl c = true
  · rw [if_pos hb]
    have := par_any (A := []) (B := [c]) hm (by simp) (by simpa using hb) (by simp; omega)
    simpa using this
  · rw [if_neg hb]
    have hb' : isBl c = false := by simpa using hb
    have hr := rd_pr v 64 [] [c] (prV v ++ [c]) (by simp) hm (fun h => absurd h h4)
    simp only [List.length_nil, Nat.zero_add] at hr
    have hs : skp (prV v ++ [c]) (prV v).length = (prV v).length := skp_no (at_pre (prV v) c []) hb'
    unfold parP
    rw [if_neg (by simp; omega), hr]
    dsimp only
    rw [hs, if_pos (by simp)]
/-- Members that rise. -/
theorem mayM_of {m : List MemT} {d : Nat} (h1 : m.Pairwise (fun a b => Op.bytesLess a.1 b.1 = true)) (h2 : ∀ x ∈ m, txF x.1 = true ∧ mayV x.2 d = true) : ∀ p, (∀ q, p = some q → ∀ x ∈ m, Op.bytesLess q x.1 = true) → mayM m p d = true := by
  induction m with
  | nil => intro p _; rfl
  | cons a t ih =>
    intro p hp
    obtain ⟨nm, v⟩ := a
    rw [List.pairwise_cons] at h1
    rw [mayM, ih h1.2 (fun x hx => h2 x (by simp [hx])) (some nm) (fun q hq x hx => by cases hq; exact h1.1 x hx)]
    have h3 := h2 (nm, v) (by simp)
    rw [h3.1, h3.2]
    have h4 : aftB p nm = true := by
      cases p with
      | none => rfl
      | some q => exact hp q rfl (nm, v) (by simp)
    rw [h4]
    rfl
theorem mayL_of {l : List JV} {d : Nat} (h : ∀ x ∈ l, mayV x d = true) : mayL l d = true := by
  induction l with
  | nil => rfl
  | cons a t ih => rw [mayL, h a (by simp), ih (fun x hx => h x (by simp [hx]))]; rfl
theorem srtM_may {m : List MemT} {d : Nat} (h1 : (m.map (fun m => m.1)).Nodup) (h2 : ∀ x ∈ m, txF x.1 = true ∧ mayV x.2 d = true) : mayM (srtM m) none d = true := by
  have hp : (srtM m).Perm m := List.mergeSort_perm _ _
  have hs : (srtM m).Pairwise (fun a b => Op.bytesLess b.1 a.1 = false) := by
    have := List.pairwise_mergeSort (le := fun a b : MemT => !Op.bytesLess b.1 a.1) (fun a b c h1 h2 => by
      simp only [Bool.not_eq_true'] at h1 h2 ⊢
      cases h : Op.bytesLess c.1 a.1 with
      | false => rfl
      | true =>
        cases h3 : Op.bytesLess a.1 b.1 with
        | true => have := bl_tr _ _ _ h h3; rw [this] at h2; cases h2
        | false => have e := bl_tot _ _ h3 h1; rw [← e, h] at h2; cases h2) (fun a b => by
      cases h : Op.bytesLess b.1 a.1 with
      | false => rfl
      | true =>
        cases h2 : Op.bytesLess a.1 b.1 with
        | false => rfl
        | true => have := bl_tr _ _ _ h h2; rw [bl_irr] at this; cases this) m
    exact this.imp (fun h => by simpa using h)
  have hn : ((srtM m).map (fun m => m.1)).Nodup := (hp.map _).nodup_iff.2 h1
  have hr : (srtM m).Pairwise (fun a b => Op.bytesLess a.1 b.1 = true) := by
    rw [List.Nodup, List.pairwise_map] at hn
    exact (hs.and hn).imp (fun {a b} h => by
      cases h2 : Op.bytesLess a.1 b.1 with
      | true => rfl
      | false => exact absurd (bl_tot _ _ h2 h.1) h.2)
  exact mayM_of hr (fun x hx => h2 x (hp.mem_iff.1 hx)) none (fun q hq => by cases hq)
theorem its_may {f : Nat → JR JV} {t : List UInt8} {d : Nat} (hf : ∀ p v q, f p = .ok v q → mayV v d = true) : ∀ (n p : Nat) (acc l : List JV) (q : Nat), (∀ x ∈ acc, mayV x d = true) → itsP f t n p acc = .ok l q → ∀ x ∈ l, mayV x d = true
  | 0, p, acc, l, q, _, h => by simp [itsP] at h
  | n + 1, p, acc, l, q, ha, h => by
    rw [itsP] at h
    split at h
    · cases h
    · next v q1 h1 =>
      have hv := hf _ _ _ h1
      have ha2 : ∀ x ∈ acc ++ [v], mayV x d = true := fun x hx => by
        rcases List.mem_append.1 hx with hx | hx
        · exact ha x hx
        · rw [List.mem_singleton] at hx; rw [hx]; exact hv
      split at h
      · cases h
      · cases h; exact ha2
      · exact its_may hf n _ _ l q ha2 h
theorem mes_may {f : Nat → JR JV} {t : List UInt8} {d : Nat} (hf : ∀ p v q, f p = .ok v q → mayV v d = true) (hx : ExtV f f t.length) : ∀ (n p : Nat) (acc l : List MemT) (q : Nat), (∀ x ∈ acc, txF x.1 = true ∧ mayV x.2 d = true) → (acc.map (fun m => m.1)).Nodup → mesP f t n p acc = .ok l q → (∀ x ∈ l, txF x.1 = true ∧ mayV x.2 d = true) ∧ (l.map (fun m => m.1)).Nodup
  | 0, p, acc, l, q, _, _, h => by simp [mesP] at h
  | n + 1, p, acc, l, q, ha, hn, h => by
    rw [mesP] at h
    split at h
    · cases h
    · next m q1 h1 =>
      obtain ⟨_, p1, v1, hv1, _⟩ := memP_new h1
      obtain ⟨_, _, ht, hnew⟩ := memP_app (e := []) hx h1
      have hv : mayV m.2 d = true := by
        unfold memP at h1
        split at h1
        · cases h1
        · split at h1
          · cases h1
          · split at h1
            · cases h1
            · split at h1
              · cases h1
              · split at h1
                · cases h1
                · split at h1
                  · cases h1
                  · next hv => cases h1; exact hf _ _ _ hv
      have ha2 : ∀ x ∈ acc ++ [m], txF x.1 = true ∧ mayV x.2 d = true := fun x hx => by
        rcases List.mem_append.1 hx with hx | hx
        · exact ha x hx
        · rw [List.mem_singleton] at hx; rw [hx]; exact ⟨ht, hv⟩
      have hn2 : ((acc ++ [m]).map (fun m => m.1)).Nodup := by
        rw [List.map_append, List.nodup_append]
        refine ⟨hn, by simp, fun a ha b hb e => ?_⟩
        simp only [List.map_cons, List.map_nil, List.mem_singleton] at hb
        subst hb e
        exact hnew ha
      split at h
      · cases h
      · cases h; exact ⟨ha2, hn2⟩
      · exact mes_may hf hx n _ _ l q ha2 hn2 h
theorem dig_may {t : List UInt8} {sg : Int} {p : Nat} {v : Int} {q : Nat} (hs : sg = 1 ∨ sg = -1) (h : digP t sg p = .ok v q) : -9007199254740991 ≤ v ∧ v ≤ 9007199254740991 := by
  unfold digP at h
  split at h
  · cases h
  · split at h
    · cases h
    · split at h
      · cases h
      · split at h
        · cases h
        · next h3 =>
          cases h
          rcases hs with rfl | rfl <;> omega
theorem num_may {t : List UInt8} {p : Nat} {v : Int} {q : Nat} (h : numP t p = .ok v q) : -9007199254740991 ≤ v ∧ v ≤ 9007199254740991 := by
  unfold numP at h
  split at h
  · exact dig_may (.inr rfl) h
  · exact dig_may (.inl rfl) h
theorem valP_may (t : List UInt8) : ∀ (d p : Nat) (v : JV) (q : Nat), valP t d p = .ok v q → mayV v d = true
  | 0, p, v, q, h => by
    rw [valP] at h
    split at h
    · cases h
    · split at h <;> cases h
  | d + 1, p, v, q, h => by
    have ih := valP_may t d
    have ihx := valP_app t [] d
    rw [List.append_nil] at ihx
    rw [valP] at h
    split at h
    · cases h
    · next c hx =>
      unfold casP at h
      split at h
      · cases hl : lstP (valP t d) t (skp t p) with
        | err z => rw [hl] at h; cases h
        | ok l r =>
          rw [hl] at h
          cases h
          have hL : mayL l d = true := by
            refine mayL_of ?_
            unfold lstP at hl
            split at hl
            · cases hl
            · cases hl; simp
            · exact its_may ih _ _ _ _ _ (by simp) hl
          simp [mayV, fitV, txN, hL, mayM]
      · split at h
        · cases hl : objP (valP t d) t (skp t p) with
          | err z => rw [hl] at h; cases h
          | ok l r =>
            rw [hl] at h
            cases h
            have hM : mayM l none d = true := by
              unfold objP at hl
              split at hl
              · cases hl
              · cases hl; rfl
              · split at hl
                · cases hl
                · next h2 =>
                  cases hl
                  obtain ⟨m1, m2⟩ := mes_may ih ihx _ _ _ _ _ (by simp) (by simp) h2
                  exact srtM_may m2 m1
            simp [mayV, fitV, txN, hM, mayL]
        · split at h
          · cases hl : txtP t (skp t p) with
            | err z => rw [hl] at h; cases h
            | ok l r =>
              rw [hl] at h
              cases h
              simp [mayV, fitV, (txtP_le hl).2, mayL, mayM]
          · split at h
            · cases hl : numP t (skp t p) with
              | err z => rw [hl] at h; cases h
              | ok l r =>
                rw [hl] at h
                cases h
                have hn := num_may hl
                simp [mayV, fitV, txN, hn, mayL, mayM]
            · split at h
              · split at h
                · cases h; simp [mayV, fitV, txN, mayL, mayM]
                · cases h
              · split at h
                · split at h
                  · cases h; simp [mayV, fitV, txN, mayL, mayM]
                  · cases h
                · split at h
                  · split at h
                    · cases h; simp [mayV, fitV, txN, mayL, mayM]
                    · cases h
                  · cases h
theorem parP_may {t : List UInt8} {v : JV} {q : Nat} (h : parP t = .ok v q) : mayV v 64 = true := by
  unfold parP at h
  split at h
  · cases h
  · split at h
    · cases h
    · next hv =>
      split at h
      · cases h
      · cases h; exact valP_may t 64 0 _ _ hv
end Go.Proofs.YtegblhmcfemfgaaGreatDoor
namespace Go.Proofs.YtegblhmcfemfgaaGreatDoor
open Go.RowKit

mutual
/-- What is left of n behind a value. -/
def cntV : JV → Int → Nat → Int
  | .mk _ _ s l o, n, d => if d = 0 then 0 else cntM o (cntL l (n - 1 - min (s.length : Int) 1048576) d) d
def cntL : List JV → Int → Nat → Int
  | [], n, _ => n
  | v :: t, n, d => if 0 < n then cntL t (cntV v n (d - 1)) d else n
def cntM : List (List UInt8 × JV) → Int → Nat → Int
  | [], n, _ => n
  | (nm, v) :: t, n, d => if 0 < n then cntM t (cntV v (n - min (nm.length : Int) 1048576) (d - 1)) d else n
end
mutual
/-- How many parts and bytes. -/
def szV : JV → Nat
  | .mk _ _ s l o => 1 + s.length + szL l + szM o
def szL : List JV → Nat
  | [] => 0
  | v :: t => szV v + szL t
def szM : List (List UInt8 × JV) → Nat
  | [] => 0
  | (nm, v) :: t => nm.length + szV v + szM t
end
mutual
theorem cntV_pos : ∀ (v : JV) (n : Int) (d : Nat), n ≤ 1000000 → 0 < cntV v n d → 0 < n ∧ cntV v n d = n - szV v
  | .mk k m s l o, n, d, hn, h => by
    rw [cntV] at h ⊢
    by_cases hd : d = 0
    · rw [if_pos hd] at h; omega
    · rw [if_neg hd] at h ⊢
      have h1 := cntM_pos o _ d ?_ h
      · have h2 := cntL_pos l _ d (by omega) h1.1
        rw [h1.2, h2.2, szV]
        have := h2.1
        omega
      · by_cases hc : 0 < cntL l (n - 1 - min (s.length : Int) 1048576) d
        · have h2 := cntL_pos l _ d (by omega) hc
          omega
        · omega
theorem cntL_pos : ∀ (l : List JV) (n : Int) (d : Nat), n ≤ 1000000 → 0 < cntL l n d → 0 < n ∧ cntL l n d = n - szL l
  | [], n, d, _, h => by rw [cntL] at h ⊢; rw [szL]; omega
  | v :: t, n, d, hn, h => by
    rw [cntL] at h ⊢
    by_cases h0 : 0 < n
    · rw [if_pos h0] at h ⊢
      have h1 := cntL_pos t _ d ?_ h
      · have h2 := cntV_pos v n (d - 1) hn h1.1
        rw [h1.2, h2.2, szL]
        omega
      · by_cases hc : 0 < cntV v n (d - 1)
        · have := cntV_pos v n (d - 1) hn hc
          omega
        · omega
    · rw [if_neg h0] at h; omega
theorem cntM_pos : ∀ (l : List MemT) (n : Int) (d : Nat), n ≤ 1000000 → 0 < cntM l n d → 0 < n ∧ cntM l n d = n - szM l
  | [], n, d, _, h => by rw [cntM] at h ⊢; rw [szM]; omega
  | (nm, v) :: t, n, d, hn, h => by
    rw [cntM] at h ⊢
    by_cases h0 : 0 < n
    · rw [if_pos h0] at h ⊢
      have h1 := cntM_pos t _ d ?_ h
      · have h2 := cntV_pos v (n - min (nm.length : Int) 1048576) (d - 1) (by omega) h1.1
        rw [h1.2, h2.2, szM]
        have := h2.1
        omega
      · by_cases hc : 0 < cntV v (n - min (nm.length : Int) 1048576) (d - 1)
        · have := cntV_pos v (n - min (nm.length : Int) 1048576) (d - 1) (by omega) hc
          omega
        · omega
    · rw [if_neg h0] at h; omega
end
mutual
theorem cntV_lo : ∀ (v : JV) (n : Int) (d : Nat), -1048576 ≤ n → n ≤ 1000000 → -4194304 ≤ cntV v n d ∧ cntV v n d ≤ 1000000
  | .mk k m s l o, n, d, h1, h2 => by
    rw [cntV]
    split
    · omega
    · have h3 := cntL_lo l (n - 1 - min (s.length : Int) 1048576) d (by omega) (by omega)
      exact cntM_lo o _ d h3.1 h3.2
theorem cntL_lo : ∀ (l : List JV) (n : Int) (d : Nat), -4194304 ≤ n → n ≤ 1000000 → -4194304 ≤ cntL l n d ∧ cntL l n d ≤ 1000000
  | [], n, d, h1, h2 => by rw [cntL]; omega
  | v :: t, n, d, h1, h2 => by
    rw [cntL]
    split
    · have h3 := cntV_lo v n (d - 1) (by omega) (by omega)
      exact cntL_lo t _ d h3.1 h3.2
    · omega
theorem cntM_lo : ∀ (l : List MemT) (n : Int) (d : Nat), -4194304 ≤ n → n ≤ 1000000 → -4194304 ≤ cntM l n d ∧ cntM l n d ≤ 1000000
  | [], n, d, h1, h2 => by rw [cntM]; omega
  | (nm, v) :: t, n, d, h1, h2 => by
    rw [cntM]
    split
    · have h3 := cntV_lo v (n - min (nm.length : Int) 1048576) (d - 1) (by omega) (by omega)
      exact cntM_lo t _ d h3.1 h3.2
    · omega
end
theorem cntL_at {l : List JV} {k d : Nat} {n : Int} (h : k < l.length) (hn : 0 < n) : cntL (l.drop k) n d = cntL (l.drop (k + 1)) (cntV l[k] n (d - 1)) d := by
  rw [List.drop_eq_getElem_cons h, cntL, if_pos hn]
theorem cntL_stop {l : List JV} {d : Nat} {n : Int} (hn : ¬ 0 < n) : cntL l n d = n := by
  cases l with
  | nil => rw [cntL]
  | cons v t => rw [cntL, if_neg hn]
theorem cntM_at {l : List MemT} {k d : Nat} {n : Int} (h : k < l.length) (hn : 0 < n) : cntM (l.drop k) n d = cntM (l.drop (k + 1)) (cntV l[k].2 (n - min (l[k].1.length : Int) 1048576) (d - 1)) d := by
  rw [List.drop_eq_getElem_cons h]
  obtain ⟨a, b⟩ := l[k]
  rw [cntM, if_pos hn]
theorem cntM_stop {l : List MemT} {d : Nat} {n : Int} (hn : ¬ 0 < n) : cntM l n d = n := by
  cases l with
  | nil => rw [cntM]
  | cons v t => obtain ⟨a, b⟩ := v; rw [cntM, if_neg hn]
/-- Is a value small? -/
def fewB (v : JV) : Bool := decide (0 < cntV v 12000 100)
theorem few_sz {v : JV} (h : fewB v = true) : szV v < 12000 := by
  have h0 := of_decide_eq_true h
  have := cntV_pos v 12000 100 (by omega) h0
  omega
mutual
theorem prV_len : ∀ (v : JV) (d : Nat), mayV v d = true → (prV v).length + 5 ≤ 30 * szV v
  | .mk k n s l m, d, h => by
    simp only [mayV, fitV, Bool.and_eq_true, decide_eq_true_eq] at h
    obtain ⟨⟨⟨⟨⟨hd, hk1⟩, hk7⟩, ⟨⟨⟨⟨⟨⟨hn, hn1⟩, hn2⟩, hS⟩, ht⟩, hl⟩, hm⟩⟩, hL⟩, hM⟩ := h
    have hk : k = 1 ∨ k = 2 ∨ k = 3 ∨ k = 4 ∨ k = 5 ∨ k = 6 ∨ k = 7 := by omega
    rw [szV]
    rcases hk with rfl | rfl | rfl | rfl | rfl | rfl | rfl
    · show 4 + 5 ≤ _; omega
    · show 5 + 5 ≤ _; omega
    · show 4 + 5 ≤ _; omega
    · show (Lib.itoa n).length + 5 ≤ _
      have := itoa_len (n := n) (by omega)
      omega
    · show (quo s).length + 5 ≤ _
      have := qbL_len s
      simp only [quo, List.length_cons, List.length_append, List.length_nil]
      omega
    · show (91 :: ((prT l).drop 1 ++ [93])).length + 5 ≤ _
      have := prT_len l (d - 1) hL
      simp only [List.length_cons, List.length_append, List.length_nil, List.length_drop]
      omega
    · show (123 :: ((prU m).drop 1 ++ [125])).length + 5 ≤ _
      have := prU_len m none (d - 1) hM
      simp only [List.length_cons, List.length_append, List.length_nil, List.length_drop]
      omega
theorem prT_len : ∀ (l : List JV) (d : Nat), mayL l d = true → (prT l).length ≤ 30 * szL l
  | [], _, _ => by simp [prT]
  | v :: t, d, h => by
    rw [mayL, Bool.and_eq_true] at h
    have h1 := prV_len v d h.1
    have h2 := prT_len t d h.2
    rw [prT, szL]
    simp only [List.length_cons, List.length_append]
    omega
theorem prU_len : ∀ (l : List MemT) (p : Option (List UInt8)) (d : Nat), mayM l p d = true → (prU l).length ≤ 30 * szM l
  | [], _, _, _ => by simp [prU]
  | (nm, v) :: t, p, d, h => by
    simp only [mayM, Bool.and_eq_true] at h
    have h1 := prV_len v d h.1.2
    have h2 := prU_len t (some nm) d h.2
    have h3 := qbL_len nm
    rw [prU, szM]
    simp only [quo, List.length_cons, List.length_append, List.length_nil]
    omega
end
end Go.Proofs.YtegblhmcfemfgaaGreatDoor
namespace Go.Proofs.YtegblhmcfemfgaaGreatDoor
open Go.RowKit

theorem szL_app : ∀ (l : List JV) (v : JV), szL (l ++ [v]) = szL l + szV v
  | [], v => by simp [szL]
  | x :: t, v => by rw [List.cons_append, szL, szL, szL_app t v]; omega
theorem szM_app : ∀ (l : List MemT) (m : MemT), szM (l ++ [m]) = szM l + (m.1.length + szV m.2)
  | [], (a, v) => by simp [szM]
  | (b, x) :: t, m => by rw [List.cons_append, szM, szM, szM_app t m]; omega
theorem szM_perm {l l' : List MemT} (h : l.Perm l') : szM l = szM l' := by
  induction h with
  | nil => rfl
  | cons x _ ih => obtain ⟨a, v⟩ := x; rw [szM, szM, ih]
  | swap x y t => obtain ⟨a, v⟩ := x; obtain ⟨b, u⟩ := y; rw [szM, szM, szM, szM]; omega
  | trans _ _ h1 h2 => exact h1.trans h2
/-- What is read is bounded by what is passed. -/
def BdV (f : Nat → JR JV) : Prop := ∀ p v q, f p = .ok v q → szV v + 16000 * p ≤ 16000 * q
theorem its_sz {f : Nat → JR JV} {t : List UInt8} (hf : BdV f) : ∀ (n p : Nat) (acc l : List JV) (q : Nat), itsP f t n p acc = .ok l q → szL l + 16000 * p ≤ szL acc + 16000 * q
  | 0, p, acc, l, q, h => by simp [itsP] at h
  | n + 1, p, acc, l, q, h => by
    rw [itsP] at h
    split at h
    · cases h
    · next v q1 h1 =>
      have g1 := hf _ _ _ h1
      split at h
      · cases h
      · next r h2 =>
        have := behP_lt h2
        cases h
        rw [szL_app]; omega
      · next r h2 =>
        have := behP_lt h2
        have g2 := its_sz hf n r _ l q h
        rw [szL_app] at g2; omega
theorem mem_sz {f : Nat → JR JV} {t : List UInt8} (hf : BdV f) {ns : List (List UInt8)} {p q : Nat} {m : MemT} (h : memP f t ns p = .ok m q) : m.1.length + szV m.2 + 16000 * p ≤ 16000 * q := by
  unfold memP at h
  split at h
  · cases h
  · split at h
    · cases h
    · next name q0 hx =>
      have g1 := txtP_ge hx
      have g2 : name.length ≤ 8000 := by
        have := (txtP_le hx).2
        unfold txF at this
        simp only [Bool.and_eq_true, decide_eq_true_eq] at this
        exact this.1
      have g3 := skp_ge t p
      have g4 := skp_ge t q0
      split at h
      · cases h
      · split at h
        · cases h
        · split at h
          · cases h
          · split at h
            · cases h
            · next hv =>
              cases h
              have := hf _ _ _ hv
              dsimp only
              omega
theorem mes_sz {f : Nat → JR JV} {t : List UInt8} (hf : BdV f) : ∀ (n p : Nat) (acc l : List MemT) (q : Nat), mesP f t n p acc = .ok l q → szM l + 16000 * p ≤ szM acc + 16000 * q
  | 0, p, acc, l, q, h => by simp [mesP] at h
  | n + 1, p, acc, l, q, h => by
    rw [mesP] at h
    split at h
    · cases h
    · next m q1 h1 =>
      have g1 := mem_sz hf h1
      split at h
      · cases h
      · next r h2 =>
        have := behP_lt h2
        cases h
        rw [szM_app]; omega
      · next r h2 =>
        have := behP_lt h2
        have g2 := mes_sz hf n r _ l q h
        rw [szM_app] at g2; omega
theorem valP_sz (t : List UInt8) : ∀ (d : Nat), BdV (valP t d)
  | 0, p, v, q, h => by
    rw [valP] at h
    split at h
    · cases h
    · split at h <;> cases h
  | d + 1, p, v, q, h => by
    have ih := valP_sz t d
    have hs := skp_ge t p
    have hg : skp t p < q := by
      rw [valP] at h
      split at h
      · cases h
      · exact casP_ge (fun l q h => lstP_ge (valP_ge t d) h) (fun l q h => objP_ge (valP_ge t d) h) h
    rw [valP] at h
    split at h
    · cases h
    · next c hx =>
      unfold casP at h
      split at h
      · cases hl : lstP (valP t d) t (skp t p) with
        | err z => rw [hl] at h; cases h
        | ok l r =>
          rw [hl] at h
          cases h
          unfold lstP at hl
          rw [szV, szM]
          split at hl
          · cases hl
          · next h1 => have := entP_ge h1; cases hl; simp [szL]; omega
          · next h1 =>
            have := entP_ge h1
            have := its_sz ih _ _ _ _ _ hl
            simp only [szL, List.length_nil] at this ⊢
            omega
      · split at h
        · cases hl : objP (valP t d) t (skp t p) with
          | err z => rw [hl] at h; cases h
          | ok l r =>
            rw [hl] at h
            cases h
            unfold objP at hl
            rw [szV, szL]
            split at hl
            · cases hl
            · next h1 => have := entP_ge h1; cases hl; simp [szM]; omega
            · next h1 =>
              have := entP_ge h1
              split at hl
              · cases hl
              · next h2 =>
                have := mes_sz ih _ _ _ _ _ h2
                cases hl
                rw [show szM (srtM _) = szM _ from szM_perm (List.mergeSort_perm _ _)]
                simp only [szM, List.length_nil] at this ⊢
                omega
        · split at h
          · cases hl : txtP t (skp t p) with
            | err z => rw [hl] at h; cases h
            | ok l r =>
              rw [hl] at h
              cases h
              have g2 : l.length ≤ 8000 := by
                have := (txtP_le hl).2
                unfold txF at this
                simp only [Bool.and_eq_true, decide_eq_true_eq] at this
                exact this.1
              simp only [szV, szL, szM]
              omega
          · split at h
            · cases hl : numP t (skp t p) with
              | err z => rw [hl] at h; cases h
              | ok l r =>
                rw [hl] at h
                cases h
                simp only [szV, szL, szM, List.length_nil]
                omega
            · split at h
              · split at h
                · cases h; simp only [szV, szL, szM, List.length_nil]; omega
                · cases h
              · split at h
                · split at h
                  · cases h; simp only [szV, szL, szM, List.length_nil]; omega
                  · cases h
                · split at h
                  · split at h
                    · cases h; simp only [szV, szL, szM, List.length_nil]; omega
                    · cases h
                  · cases h
theorem valP_le (t : List UInt8) {d p : Nat} {v : JV} {q : Nat} (h : valP t d p = .ok v q) : q ≤ t.length := by
  have ihx := valP_app t [] d
  rw [List.append_nil] at ihx
  exact (ihx _ _ _ h).1
/-- What is read is short when it is printed. -/
theorem parP_len {t : List UInt8} {v : JV} {q : Nat} (h : parP t = .ok v q) : (prV v).length ≤ 70368744177664 := by
  have hm := parP_may h
  have hp := prV_len v 64 hm
  unfold parP at h
  split at h
  · cases h
  · split at h
    · cases h
    · next hv =>
      split at h
      · cases h
      · cases h
        have h1 := valP_sz t 64 _ _ _ hv
        have h2 := valP_le t hv
        omega
end Go.Proofs.YtegblhmcfemfgaaGreatDoor
