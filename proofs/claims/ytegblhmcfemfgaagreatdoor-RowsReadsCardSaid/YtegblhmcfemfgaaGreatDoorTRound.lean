import Derived.Test.YtegblhmcfemfgaaGreatDoorTLaw
namespace Go.Proofs.YtegblhmcfemfgaaGreatDoor
open Go.RowKit
theorem sgn_small (c : UInt8) (t : List UInt8) (h : c.toNat < 128) : sgn (c :: t) = (c.toNat, 1) := by rw [sgn, if_pos h]
theorem tailR_bytes : ∀ (k : Nat) (t : List UInt8) (acc a : Nat), tailR k t acc = some a → ∀ b ∈ t.take k, b.toNat / 64 = 2
 | 0, _, _, _, _, b, hb => by simp at hb
 | k + 1, [], _, _, h, _, _ => by simp [tailR] at h
 | k + 1, c :: t, acc, a, h, b, hb => by
   rw [tailR] at h
   split at h
   · next h1 =>
     rw [List.take_succ_cons] at hb
     rcases List.mem_cons.1 hb with rfl | hb
     · exact h1
     exact tailR_bytes k t _ a h b hb
   cases h
theorem tailR_take : ∀ (k : Nat) (t : List UInt8) (acc : Nat), tailR k (t.take k) acc = tailR k t acc
 | 0, _, _ => rfl
 | k + 1, [], _ => rfl
 | k + 1, c :: t, acc => by
   rw [List.take_succ_cons, tailR, tailR, tailR_take k t]
theorem sgn_big (c : UInt8) (t : List UInt8) (h : 128 ≤ c.toNat) (hz : (sgn (c :: t)).2 ≠ 0) :
 ∃ k least acc a, (sgn (c :: t)) = (a, k + 1) ∧ tailR k t acc = some a ∧ 128 ≤ a ∧ ∀ u, sgn (c :: u) = tailE k least (tailR k u acc) := by
 have key : ∃ k least acc, 128 ≤ least ∧ ∀ u, sgn (c :: u) = tailE k least (tailR k u acc) := by
  rcases (show (192 ≤ c.toNat ∧ c.toNat < 224) ∨ (224 ≤ c.toNat ∧ c.toNat < 240) ∨ (240 ≤ c.toNat ∧ c.toNat < 248) ∨ (c.toNat < 192 ∨ 248 ≤ c.toNat) by omega) with hx | hx | hx | hx
  · exact ⟨1, 128, _, by omega, fun u => by rw [sgn, if_neg (by omega), if_pos hx]⟩
  · exact ⟨2, 2048, _, by omega, fun u => by rw [sgn, if_neg (by omega), if_neg (by omega), if_pos hx]⟩
  · exact ⟨3, 65536, _, by omega, fun u => by rw [sgn, if_neg (by omega), if_neg (by omega), if_neg (by omega), if_pos hx]⟩
  exfalso; apply hz
  rw [sgn, if_neg (by omega), if_neg (by omega), if_neg (by omega), if_neg (by omega)]
 obtain ⟨k, least, acc, hl, hall⟩ := key
 rw [hall t] at hz ⊢
 cases hr : tailR k t acc with
 | none => rw [hr] at hz; simp [tailE] at hz
 | some a =>
  rw [hr] at hz
  simp only [tailE] at hz ⊢
  by_cases hc : a < least ∨ signB a = false
  · rw [if_pos hc] at hz; simp at hz
  rw [if_neg hc]
  exact ⟨k, least, acc, a, rfl, hr, by omega, fun u => hall u⟩
theorem sgn_take (t : List UInt8) (hz : (sgn t).2 ≠ 0) : sgn (t.take (sgn t).2) = sgn t := by
 cases t with
 | nil => rfl
 | cons c t =>
  by_cases h : c.toNat < 128
  · rw [sgn_small c t h]
    exact sgn_small c _ h
  · obtain ⟨k, least, acc, a, h1, h2, h3, h4⟩ := sgn_big c t (by omega) hz
    rw [h1]
    simp only
    rw [List.take_succ_cons, h4, tailR_take, ← h4, h1]
theorem qb_plain (c : UInt8) (h1 : 32 ≤ c.toNat) (h2 : c.toNat ≠ 34) (h3 : c.toNat ≠ 92) : qb c = [c] := by
 have : shB c = 0 := by
  unfold shB
  rw [if_neg h2, if_neg h3, if_neg (by omega), if_neg (by omega), if_neg (by omega), if_neg (by omega), if_neg (by omega)]
 rw [qb, if_neg (by simp [this]), if_neg (by omega)]
theorem qbL_plain : ∀ l : List UInt8, (∀ b ∈ l, qb b = [b]) → qbL l = l
 | [], _ => rfl
 | c :: t, h => by
   have h1 := h c (by simp)
   have h2 := qbL_plain t (fun b hb => h b (by simp [hb]))
   simp only [qbL, List.flatMap_cons] at h2 ⊢
   rw [h1, h2]; rfl
theorem short_back : ∀ n : Fin 256, shB (UInt8.ofNat n.val) ≠ 0 → shB (UInt8.ofNat n.val) ≠ 117 ∧ meB (shB (UInt8.ofNat n.val)) = (UInt8.ofNat n.val, true) ∧ n.val < 128 := by decide +kernel
theorem ofNat_self (c : UInt8) : UInt8.ofNat c.toNat = c := by rw [← UInt8.toNat_inj, UInt8.toNat_ofNat']; have := c.toNat_lt; omega
theorem short_back' (c : UInt8) (h : shB c ≠ 0) : shB c ≠ 117 ∧ meB (shB c) = (c, true) ∧ c.toNat < 128 := by
 have := short_back ⟨c.toNat, c.toNat_lt⟩
 simp only [ofNat_self] at this
 exact this h
theorem refD_S : ∀ m : Fin 16, refD (hexS m.val) = (m.val : Int) := by decide
theorem refD_48 : refD 48 = 0 := by decide
theorem four_hex (c : UInt8) (v : List UInt8) : fourR 4 (48 :: 48 :: hexS (c.toNat / 16) :: hexS (c.toNat % 16) :: v) 0 = (c.toNat, 0, 4) := by
 have hc := c.toNat_lt
 have h1 := refD_S ⟨c.toNat / 16, by omega⟩
 have h2 := refD_S ⟨c.toNat % 16, by omega⟩
 simp only at h1 h2
 simp only [fourR, refD_48, h1, h2]
 rw [if_neg (by omega), if_neg (by omega), if_neg (by omega), if_neg (by omega)]
 simp only [Prod.mk.injEq, and_true, Int.toNat_natCast, Int.toNat_zero]
 omega
theorem unit_hex (pre : List UInt8) (c : UInt8) (v : List UInt8) (hc : c.toNat < 32) :
 unitR (pre ++ 48 :: 48 :: hexS (c.toNat / 16) :: hexS (c.toNat % 16) :: v) pre.length = (0, 4, [c]) := by
 have hd : (pre ++ 48 :: 48 :: hexS (c.toNat / 16) :: hexS (c.toNat % 16) :: v).drop pre.length = 48 :: 48 :: hexS (c.toNat / 16) :: hexS (c.toNat % 16) :: v := List.drop_left
 have hs : signB c.toNat = true := by unfold signB; simp; omega
 unfold unitR
 rw [hd, four_hex]
 rw [if_neg (by simp), if_neg (by simp; omega), unitF, if_pos hs, sb, if_pos (by omega), ofNat_self]
theorem at_mid (pre : List UInt8) (c : UInt8) (v : List UInt8) : (pre ++ c :: v)[pre.length]? = some c := by simp
theorem qb_pos (c : UInt8) : 0 < (qb c).length := by
 unfold qb
 split
 · simp
 split
 · simp
 simp
theorem step_sign (pre : List UInt8) (c : UInt8) (t rest : List UInt8) (hz : (sgn (c :: t)).2 ≠ 0) :
 stepR (pre ++ (qbL (c :: t) ++ rest)) pre.length = (false, 0, (qbL ((c :: t).take (sgn (c :: t)).2)).length, (c :: t).take (sgn (c :: t)).2) := by
 by_cases hs : shB c = 0
 · by_cases h32 : c.toNat < 32
   · have hsg := sgn_small c t (by omega)
     have hq : qb c = [92, 117, 48, 48, hexS (c.toNat / 16), hexS (c.toNat % 16)] := by rw [qb, if_neg (by simp [hs]), if_pos h32]
     have hql : qbL (c :: t) ++ rest = 92 :: 117 :: 48 :: 48 :: hexS (c.toNat / 16) :: hexS (c.toNat % 16) :: (qbL t ++ rest) := by
      simp only [qbL, List.flatMap_cons, hq]; rfl
     have hu := unit_hex (pre ++ [92, 117]) c (qbL t ++ rest) h32
     have he : pre ++ [92, 117] ++ 48 :: 48 :: hexS (c.toNat / 16) :: hexS (c.toNat % 16) :: (qbL t ++ rest) = pre ++ 92 :: 117 :: 48 :: 48 :: hexS (c.toNat / 16) :: hexS (c.toNat % 16) :: (qbL t ++ rest) := by simp
     have hl : (pre ++ [92, 117]).length = pre.length + 1 + 1 := by simp
     rw [he, hl] at hu
     have h1 : (pre ++ 92 :: 117 :: 48 :: 48 :: hexS (c.toNat / 16) :: hexS (c.toNat % 16) :: (qbL t ++ rest))[pre.length + 1]? = some 117 := by
      simp
     have hesc : escR (pre ++ 92 :: 117 :: 48 :: 48 :: hexS (c.toNat / 16) :: hexS (c.toNat % 16) :: (qbL t ++ rest)) (pre.length + 1) = (0, 5, [c]) := by
      rw [escR, h1]
      simp only
      rw [if_pos trivial, hu]
     rw [hsg, hql, stepR, at_mid]
     simp only
     rw [if_neg (by decide), if_pos trivial, hesc]
     simp [qbL, hq]
   have h34 : c.toNat ≠ 34 := by intro h; rw [shB, if_pos h] at hs; cases hs
   have h92 : c.toNat ≠ 92 := by intro h; rw [shB, if_neg h34, if_pos h] at hs; cases hs
   have hq : qb c = [c] := qb_plain c (by omega) h34 h92
   obtain ⟨z, hze⟩ : ∃ z, z = (sgn (c :: t)).2 := ⟨_, rfl⟩
   have hzpos : 0 < z := by omega
   have hplain : qbL ((c :: t).take z) = (c :: t).take z := by
    apply qbL_plain
    intro b hb
    by_cases hc : c.toNat < 128
    · rw [sgn_small c t hc] at hze
      subst hze
      simp at hb
      rw [hb]; exact hq
    obtain ⟨k, least, acc, a, h1, h2, h3, h4⟩ := sgn_big c t (by omega) hz
    rw [h1] at hze
    simp only at hze
    subst hze
    rw [List.take_succ_cons] at hb
    rcases List.mem_cons.1 hb with rfl | hb
    · exact hq
    have := tailR_bytes k t acc a h2 b hb
    exact qb_plain b (by omega) (by omega) (by omega)
   have hge : 32 ≤ (sgn (c :: t)).1 := by
    by_cases hc : c.toNat < 128
    · rw [sgn_small c t hc]; simp only; omega
    obtain ⟨k, least, acc, a, h1, h2, h3, h4⟩ := sgn_big c t (by omega) hz
    rw [h1]; simp only; omega
   have hle : z ≤ (c :: t).length := by rw [hze]; exact sgn_le _
   have hu : qbL (c :: t) ++ rest = (c :: t).take z ++ (qbL ((c :: t).drop z) ++ rest) := by
    rw [← List.append_assoc]
    congr 1
    conv => lhs; rw [← List.take_append_drop z (c :: t)]
    rw [qbL_app, hplain]
   have hsg : sgn ((c :: t).take z ++ (qbL ((c :: t).drop z) ++ rest)) = sgn (c :: t) := by
    have h1 := sgn_take (c :: t) hz
    rw [← hze] at h1
    rw [sgn_app _ _ (by rw [h1]; exact hz), h1]
   have hd : (pre ++ ((c :: t).take z ++ (qbL ((c :: t).drop z) ++ rest))).drop pre.length = (c :: t).take z ++ (qbL ((c :: t).drop z) ++ rest) := List.drop_left
   have hlen : ((c :: t).take z).length = z := by rw [List.length_take]; omega
   rw [← hze, hu, hplain, hlen]
   have hat : (pre ++ ((c :: t).take z ++ (qbL ((c :: t).drop z) ++ rest)))[pre.length]? = some c := by
    obtain ⟨y, rfl⟩ : ∃ y, z = y + 1 := ⟨z - 1, by omega⟩
    rw [List.take_succ_cons, List.cons_append]
    exact at_mid _ _ _
   rw [stepR, hat]
   simp only
   rw [if_neg (by intro h; subst h; simp at h34), if_neg (by intro h; subst h; simp at h92), hd, hsg, ← hze, if_neg (by omega)]
   congr 3
   rw [List.take_append_of_le_length (by omega), List.take_of_length_le (by omega)]
 · obtain ⟨h117, hme, h128⟩ := short_back' c hs
   have hsg := sgn_small c t h128
   have hq : qb c = [92, shB c] := by rw [qb, if_pos hs]
   have hql : qbL (c :: t) ++ rest = 92 :: shB c :: (qbL t ++ rest) := by
    simp only [qbL, List.flatMap_cons, hq]; rfl
   have h1 : (pre ++ 92 :: shB c :: (qbL t ++ rest))[pre.length + 1]? = some (shB c) := by
    simp
   have hesc : escR (pre ++ 92 :: shB c :: (qbL t ++ rest)) (pre.length + 1) = (0, 1, [c]) := by
    rw [escR, h1]
    simp only
    rw [if_neg h117, hme]
    simp
   rw [hsg, hql, stepR, at_mid]
   simp only
   rw [if_neg (by decide), if_pos trivial, hesc]
   simp [qbL, hq]
theorem cnt_cons {c : UInt8} {t : List UInt8} (h : validB (c :: t) = true) : (sgn (c :: t)).2 ≠ 0 ∧ validB ((c :: t).drop (sgn (c :: t)).2) = true := by
 rw [validB, cnt_step (c :: t) (by simp)] at h
 split at h
 · cases h
 next hz => exact ⟨hz, by rw [Option.isSome_map] at h; exact h⟩
theorem unq_run : ∀ (n : Nat) (s pre rest o : List UInt8) (f : Nat), s.length ≤ n → validB s = true → (pre ++ (qbL s ++ rest)).length - pre.length < f →
 ∃ f', (pre ++ (qbL s ++ rest)).length - (pre.length + (qbL s).length) < f' ∧ unqF f (pre ++ (qbL s ++ rest)) pre.length o = unqF f' (pre ++ (qbL s ++ rest)) (pre.length + (qbL s).length) (o ++ s)
 | n, [], pre, rest, o, f, _, _, hf => ⟨f, by simpa [qbL] using hf, by simp [qbL]⟩
 | 0, c :: t, _, _, _, _, h, _, _ => by simp at h
 | n + 1, c :: t, pre, rest, o, f, hn, hv, hf => by
   obtain ⟨f, rfl⟩ : ∃ g, f = g + 1 := ⟨f - 1, by omega⟩
   obtain ⟨hz, hv2⟩ := cnt_cons hv
   have hst := step_sign pre c t rest hz
   obtain ⟨z, hze⟩ : ∃ z, z = (sgn (c :: t)).2 := ⟨_, rfl⟩
   rw [← hze] at hst hv2 hz
   have hsplit : qbL (c :: t) = qbL ((c :: t).take z) ++ qbL ((c :: t).drop z) := by rw [← qbL_app, List.take_append_drop]
   have hT : pre ++ (qbL (c :: t) ++ rest) = (pre ++ qbL ((c :: t).take z)) ++ (qbL ((c :: t).drop z) ++ rest) := by rw [hsplit]; simp
   have hpos : 0 < (qbL ((c :: t).take z)).length := by
    obtain ⟨y, rfl⟩ : ∃ y, z = y + 1 := ⟨z - 1, by omega⟩
    rw [List.take_succ_cons]
    simp only [qbL, List.flatMap_cons, List.length_append]
    have := qb_pos c
    omega
   rw [unqF, hst]
   simp only
   rw [if_neg (by simp), if_neg (by simp)]
   have hlen : pre.length + (qbL ((c :: t).take z)).length = (pre ++ qbL ((c :: t).take z)).length := by simp
   have hn' : ((c :: t).drop z).length ≤ n := by rw [List.length_drop]; simp only [List.length_cons] at hn ⊢; omega
   obtain ⟨f', h1, h2⟩ := unq_run n ((c :: t).drop z) (pre ++ qbL ((c :: t).take z)) rest (o ++ (c :: t).take z) f hn' hv2 (by
    rw [← hT, ← hlen]
    rw [hT] at hf ⊢
    simp only [List.length_append] at hf ⊢
    omega)
   rw [← hT] at h1 h2
   have hL : pre.length + (qbL (c :: t)).length = (pre ++ qbL ((c :: t).take z)).length + (qbL ((c :: t).drop z)).length := by rw [hsplit]; simp; omega
   refine ⟨f', ?_, ?_⟩
   · rw [hL]; exact h1
   rw [hL, hlen, h2, List.append_assoc, List.take_append_drop]
theorem unq_quoted (ahead s more : List UInt8) (hv : validB s = true) :
 unqR (ahead ++ (34 :: qbL s ++ [34]) ++ more) (ahead.length : Int) = (s, ahead.length + (34 :: qbL s ++ [34]).length, 0) := by
 have hT : ahead ++ (34 :: qbL s ++ [34]) ++ more = (ahead ++ [34]) ++ (qbL s ++ (34 :: more)) := by simp
 rw [hT]
 have hw : wantN ((ahead ++ [34]) ++ (qbL s ++ (34 :: more))) ahead.length 34 = 0 := by
  have : ((ahead ++ [34]) ++ (qbL s ++ (34 :: more)))[ahead.length]? = some 34 := by
   simp
  rw [wantN, if_pos (by simp), this, if_pos rfl]
 obtain ⟨f', h1, h2⟩ := unq_run _ s (ahead ++ [34]) (34 :: more) [] (((ahead ++ [34]) ++ (qbL s ++ (34 :: more))).length + 1) (Nat.le_refl _) hv (by omega)
 obtain ⟨f', rfl⟩ : ∃ g, f' = g + 1 := ⟨f' - 1, by omega⟩
 have hst : stepR ((ahead ++ [34]) ++ (qbL s ++ (34 :: more))) ((ahead ++ [34]).length + (qbL s).length) = (true, 0, 1, []) := by
  have := at_mid ((ahead ++ [34]) ++ qbL s) 34 more
  rw [List.length_append, List.append_assoc] at this
  rw [stepR, this]
  simp
 rw [unqR, if_neg (by simp; omega), Int.toNat_natCast, hw, if_neg (by simp), show ahead.length + 1 = (ahead ++ [34]).length by simp, h2, unqF, hst]
 simp
 omega
end Go.Proofs.YtegblhmcfemfgaaGreatDoor
