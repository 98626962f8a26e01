/- Layer 5: two; plain facts on what mail tells. -/
import Derived.Test.YtnaafdennieedaaDBMath
namespace Go.Proofs.Ytnaafdennieedaa
open Go.RowKit

theorem two_any (n : Nat) (z : Int) (w : World) (hz : z = (n : Int)) (hn : n ≤ 9999) : Calls Try.prog 19 #[.int .i64 z] w fun e w' => e = .returned (str (digL n 2)) ∧ Below w.heap.size w w' := by
  subst hz
  have b0 : (0 : Int) ≤ (n : Int) := by omega
  have b1 : (n : Int) ≤ 9999 := by omega
  have hconv : (convert 31 9 (.slice (some ⟨w.heap.size, 0, none⟩) 2 2)).run Try.prog (w.alloc (.cells #[.int .u8 (48 + (n : Int) / 10 % 10), .int .u8 (48 + (n : Int) % 10)] 5)) =
      .ok (str (digL n 2)) (w.alloc (.cells #[.int .u8 (48 + (n : Int) / 10 % 10), .int .u8 (48 + (n : Int) % 10)] 5)) := by
    have e : #[.int .u8 (48 + (n : Int) / 10 % 10), .int .u8 (48 + (n : Int) % 10)] = ((digL n 2).map bv).toArray := by
      rw [digL_succ, digL_succ]
      show _ = ([db n 1, db n 0].map bv).toArray
      simp only [List.map_cons, List.map_nil]
      unfold bv
      rw [db_toNat, db_toNat, Nat.pow_one, Nat.pow_zero, Nat.div_one]
      push_cast
      rfl
    have hl : (digL n 2).length = 2 := digL_length _ _
    rw [e]
    have := bt.toString (S := 9) Try.underlying9 (Rd.row 5 w (digL n 2) (by omega))
    rw [hl] at this
    exact this
  go_enter Try.func19, Try.ntmps19
  go_wp2_with fail
  go_ret
  exact ⟨rfl, below_alloc _ _⟩

/-- The word of a month, of a zone. -/
def monN (k : Nat) : List UInt8 := (monL.drop (3 * k)).take 3
def zoneN (q : Nat) : List UInt8 :=
  match q with
  | 0 => [71, 77, 84] | 1 => [69, 83, 84] | 2 => [69, 68, 84] | 3 => [67, 83, 84] | 4 => [67, 68, 84] | 5 => [77, 83, 84] | 6 => [77, 68, 84] | 7 => [80, 83, 84] | 8 => [80, 68, 84] | _ => [43, 48, 49, 51, 48]
def zoneO (q : Nat) : Int :=
  match q with
  | 0 => 0 | 1 => -5 | 2 => -4 | 3 => -6 | 4 => -5 | 5 => -7 | 6 => -6 | 7 => -8 | 8 => -7 | _ => 0
def zoneS (q : Nat) : Int := if q = 9 then 5400 else zoneO q * 3600
theorem monN_len (k : Nat) (h : k < 12) : (monN k).length = 3 := by
  have : k = 0 ∨ k = 1 ∨ k = 2 ∨ k = 3 ∨ k = 4 ∨ k = 5 ∨ k = 6 ∨ k = 7 ∨ k = 8 ∨ k = 9 ∨ k = 10 ∨ k = 11 := by omega
  rcases this with h | h | h | h | h | h | h | h | h | h | h | h <;> subst h <;> rfl
theorem mon_at (t : List UInt8) (p k : Nat) (z : Bool) (r : List UInt8) (hk : k < 12) (h : t.drop p = monN k ++ r) : nameF monL 12 t p z = (k, p + 3, z) := by
  have hl := monN_len k hk
  have h3 : (t.drop p).take 3 = monN k := by rw [h, ← hl]; simp
  have hlen : p + 3 ≤ t.length := by
    have := congrArg List.length h
    rw [List.length_drop, List.length_append, hl] at this; omega
  have e : nmAt monL t p 12 0 = some k := by
    have : k = 0 ∨ k = 1 ∨ k = 2 ∨ k = 3 ∨ k = 4 ∨ k = 5 ∨ k = 6 ∨ k = 7 ∨ k = 8 ∨ k = 9 ∨ k = 10 ∨ k = 11 := by omega
    rcases this with h | h | h | h | h | h | h | h | h | h | h | h <;> subst h <;> simp only [nmAt_succ, h3] <;> rfl
  unfold nameF
  rw [if_pos hlen, e]
/-- A zone is read. -/
theorem zone_at (t : List UInt8) (p q : Nat) (hq : q < 10) (h : t.drop p = zoneN q) : mzF t p false = (zoneS q, t.length, false) := by
  by_cases h9 : q = 9
  · subst h9
    have h' : t.drop p = 43 :: [48, 49, 51, 48] := h
    have k1 := pk_hit t p 43 _ h'
    have d1 := drop_hit t p 43 _ h'
    have d1' : t.drop (p + 1) = digL 1 2 ++ [51, 48] := d1
    have k2 := numF_hit t false 1 [51, 48] 2 0 (p + 1) d1'
    have d2 := drop_hits t (p + 1) _ _ d1'
    rw [digL_length] at d2
    have d2' : t.drop (p + 1 + 2) = digL 30 2 ++ [] := d2
    have k3 := numF_hit t false 30 [] 2 0 (p + 1 + 2) d2'
    have k4 := congrArg List.length h'
    rw [List.length_drop] at k4
    simp only [List.length_cons, List.length_nil] at k4
    unfold mzF
    rw [k1, if_pos (.inl rfl)]
    simp only [k2, k3]
    simp only [Prod.mk.injEq]
    exact ⟨by decide, by omega, by decide⟩
  · have hz : ∃ c r, zoneN q = c :: r ∧ c ≠ 43 ∧ c ≠ 45 ∧ zoneV (zoneN q) = some (zoneS q) := by
      have : q = 0 ∨ q = 1 ∨ q = 2 ∨ q = 3 ∨ q = 4 ∨ q = 5 ∨ q = 6 ∨ q = 7 ∨ q = 8 := by omega
      rcases this with h | h | h | h | h | h | h | h | h <;> subst h <;> exact ⟨_, _, rfl, by decide, by decide, by decide⟩
    obtain ⟨c, r, e1, e2, e3, e4⟩ := hz
    have k1 := pk_hit t p c r (h.trans e1)
    unfold mzF
    rw [k1, if_neg (by simp [e2, e3]), h, e4]
/-- What was bad stays so. -/
theorem sgnF_bad (of t : List UInt8) (p : Nat) : (sgnF of t p true).2.2 = true := by unfold sgnF; split <;> rfl
theorem numF_bad (t : List UInt8) : ∀ (k : Nat) (n : Int) (p : Nat), (numF t k n p true).2.2 = true
  | 0, _, _ => rfl
  | k + 1, n, p => by rw [numF_succ, sgnF_bad]; exact numF_bad t k _ _
theorem nameF_bad (row t : List UInt8) (m p : Nat) : (nameF row m t p true).2.2 = true := by
  unfold nameF; split
  · split <;> rfl
  · rfl
theorem yearF_bad (t : List UInt8) (p : Nat) : (yearF t p true).2.2 = true := by
  unfold yearF
  have h := numF_bad t 2 0 p
  generalize numF t 2 0 p true = A at h ⊢
  obtain ⟨a, q, z⟩ := A
  simp only at h
  subst h
  simp only
  split
  · exact numF_bad t 2 0 q
  · rfl
theorem mzF_bad (t : List UInt8) (p : Nat) : (mzF t p true).2.2 = true := by
  unfold mzF
  split
  · have h := numF_bad t 2 0 (p + 1)
    generalize numF t 2 0 (p + 1) true = A at h ⊢
    obtain ⟨a, q, z⟩ := A
    simp only at h
    subst h
    simp only
    rw [numF_bad t 2 0 q]
    rfl
  · split <;> rfl
theorem secR_bad (t : List UInt8) (p : Nat) (z : Bool) (y mo d h mi s a : Int) (hz : z = true) : secR t p z y mo d h mi s a = (0, 4) := by
  unfold secR; rw [if_pos (.inl hz)]
/-- What Mail tells behind the name of a day. -/
def mailC (t : List UInt8) (p0 : Nat) (z0 : Bool) : Int × Int :=
  let d := numF t (wdF t p0) 0 p0 z0
  let s3 := sgnF [32] t d.2.1 d.2.2
  let m := nameF monL 12 t s3.2.1 s3.2.2
  let s4 := sgnF [32] t m.2.1 m.2.2
  let y := yearF t s4.2.1 s4.2.2
  let s5 := sgnF [32] t y.2.1 y.2.2
  let h := numF t 2 0 s5.2.1 s5.2.2
  let s6 := sgnF [58] t h.2.1 h.2.2
  let i := numF t 2 0 s6.2.1 s6.2.2
  let s := if pk t i.2.1 = 58 then numF t 2 0 (i.2.1 + 1) i.2.2 else (0, i.2.1, i.2.2)
  let s7 := sgnF [32] t s.2.1 s.2.2
  let a := mzF t s7.2.1 s7.2.2
  secR t a.2.1 a.2.2 y.1 (1 + (m.1 : Int)) d.1 h.1 i.1 s.1 a.1
theorem mailR_digit (t : List UInt8) (h : dgB (pk t 0) = true) : mailR t = mailC t 0 false := by
  unfold mailR mailC
  simp only [h, if_true]
theorem mailR_named (t : List UInt8) (h : dgB (pk t 0) = false) : mailR t = mailC t (sgnF [32] t (sgnF [44] t (nameF weekL 7 t 0 false).2.1 (nameF weekL 7 t 0 false).2.2).2.1 (sgnF [44] t (nameF weekL 7 t 0 false).2.1 (nameF weekL 7 t 0 false).2.2).2.2).2.1
    (sgnF [32] t (sgnF [44] t (nameF weekL 7 t 0 false).2.1 (nameF weekL 7 t 0 false).2.2).2.1 (sgnF [44] t (nameF weekL 7 t 0 false).2.1 (nameF weekL 7 t 0 false).2.2).2.2).2.2 := by
  unfold mailR mailC
  simp only [h, Bool.false_eq_true, if_false]
theorem mailC_bad (t : List UInt8) (p : Nat) : mailC t p true = (0, 4) := by
  unfold mailC
  apply secR_bad
  have h1 := numF_bad t (wdF t p) 0 p
  generalize numF t (wdF t p) 0 p true = d at h1 ⊢
  simp only [h1]
  have h2 := sgnF_bad [32] t d.2.1
  generalize sgnF [32] t d.2.1 true = s3 at h2 ⊢
  simp only [h2]
  have h3 := nameF_bad monL t 12 s3.2.1
  generalize nameF monL 12 t s3.2.1 true = m at h3 ⊢
  simp only [h3]
  have h4 := sgnF_bad [32] t m.2.1
  generalize sgnF [32] t m.2.1 true = s4 at h4 ⊢
  simp only [h4]
  have h5 := yearF_bad t s4.2.1
  generalize yearF t s4.2.1 true = y at h5 ⊢
  simp only [h5]
  have h6 := sgnF_bad [32] t y.2.1
  generalize sgnF [32] t y.2.1 true = s5 at h6 ⊢
  simp only [h6]
  have h7 := numF_bad t 2 0 s5.2.1
  generalize numF t 2 0 s5.2.1 true = h at h7 ⊢
  simp only [h7]
  have h8 := sgnF_bad [58] t h.2.1
  generalize sgnF [58] t h.2.1 true = s6 at h8 ⊢
  simp only [h8]
  have h9 := numF_bad t 2 0 s6.2.1
  generalize numF t 2 0 s6.2.1 true = i at h9 ⊢
  simp only [h9]
  have h10 : (if pk t i.2.1 = 58 then numF t 2 0 (i.2.1 + 1) true else (0, i.2.1, true)).2.2 = true := by
    split
    · exact numF_bad t 2 0 _
    · rfl
  generalize (if pk t i.2.1 = 58 then numF t 2 0 (i.2.1 + 1) true else (0, i.2.1, true)) = s at h10 ⊢
  simp only [h10]
  rw [sgnF_bad [32] t s.2.1]
  exact mzF_bad t _
/-- A time as mail tells it. -/
def mtext (d k : Nat) (yl : List UInt8) (h mi s q : Nat) : List UInt8 := digL d 2 ++ (32 :: (monN k ++ (32 :: (yl ++ (32 :: (digL h 2 ++ (58 :: (digL mi 2 ++ (58 :: (digL s 2 ++ (32 :: zoneN q)))))))))))
theorem digL2_cons (n : Nat) : digL n 2 = [db n 1, db n 0] := by rw [digL_succ, digL_succ]; rfl
theorem db_dig (n j : Nat) : dgB (db n j) = true := by
  unfold dgB; rw [db_toNat]; simp; omega
theorem mailC_told (t : List UInt8) (p0 : Nat) (d k : Nat) (yl : List UInt8) (yv : Int) (h mi s q : Nat) (e : t.drop p0 = mtext d k yl h mi s q) (hd : d < 100) (hk : k < 12) (hh : h < 100) (hmi : mi < 100) (hs : s < 100) (hq : q < 10)
    (hy : ∀ (p : Nat) (r : List UInt8), t.drop p = yl ++ (32 :: r) → yearF t p false = (yv, p + yl.length, false)) :
    mailC t p0 false = secR t t.length false yv (1 + (k : Int)) d h mi s (zoneS q) := by
  unfold mtext at e
  have w2 : wdF t p0 = 2 := by
    have e' := e
    rw [digL2_cons, List.cons_append] at e'
    have e1 := drop_hit t p0 _ _ e'
    have e2 := pk_hit t (p0 + 1) _ _ e1
    have e3 := congrArg List.length e1
    rw [List.length_drop, List.cons_append, List.length_cons] at e3
    unfold wdF
    rw [e2, if_pos ⟨by omega, db_dig _ _⟩]
  have e1 := numF_hit t false d _ 2 0 p0 e
  have d1 := drop_hits t p0 _ _ e
  rw [digL_length] at d1
  have e2 := sgnF_hit [32] t (p0 + 2) false 32 _ d1 (by decide)
  have d2 := drop_hit t _ 32 _ d1
  have e3 := mon_at t (p0 + 2 + 1) k false _ hk d2
  have d3 := drop_hits t _ _ _ d2
  rw [monN_len k hk] at d3
  have e4 := sgnF_hit [32] t (p0 + 2 + 1 + 3) false 32 _ d3 (by decide)
  have d4 := drop_hit t _ 32 _ d3
  have e5 := hy (p0 + 2 + 1 + 3 + 1) _ d4
  have d5 := drop_hits t _ _ _ d4
  obtain ⟨p5, hp5⟩ : ∃ p5, p5 = p0 + 2 + 1 + 3 + 1 + yl.length := ⟨_, rfl⟩
  rw [← hp5] at e5 d5
  have e6 := sgnF_hit [32] t p5 false 32 _ d5 (by decide)
  have d6 := drop_hit t _ 32 _ d5
  have e7 := numF_hit t false h _ 2 0 (p5 + 1) d6
  have d7 := drop_hits t _ _ _ d6
  rw [digL_length] at d7
  have e8 := sgnF_hit [58] t (p5 + 1 + 2) false 58 _ d7 (by decide)
  have d8 := drop_hit t _ 58 _ d7
  have e9 := numF_hit t false mi _ 2 0 (p5 + 1 + 2 + 1) d8
  have d9 := drop_hits t _ _ _ d8
  rw [digL_length] at d9
  have e10 := pk_hit t (p5 + 1 + 2 + 1 + 2) 58 _ d9
  have d10 := drop_hit t _ 58 _ d9
  have e11 := numF_hit t false s _ 2 0 (p5 + 1 + 2 + 1 + 2 + 1) d10
  have d11 := drop_hits t _ _ _ d10
  rw [digL_length] at d11
  have e12 := sgnF_hit [32] t (p5 + 1 + 2 + 1 + 2 + 1 + 2) false 32 _ d11 (by decide)
  have d12 := drop_hit t _ 32 _ d11
  have e13 := zone_at t _ q hq d12
  have m2 : ∀ x : Nat, x < 100 → (0 : Int) * 10 ^ 2 + ((x % 10 ^ 2 : Nat) : Int) = x := fun x hx => by rw [Nat.mod_eq_of_lt (by omega)]; omega
  unfold mailC
  simp only [w2, e1, e2, e3, e4, e5, e6, e7, e8, e9, e10, if_true, e11, e12, e13]
  rw [m2 d hd, m2 h hh, m2 mi hmi, m2 s hs]
theorem year4_at (t : List UInt8) (y : Nat) (hy : y < 10000) (p : Nat) (r : List UInt8) (h : t.drop p = (digL (y / 100) 2 ++ digL y 2) ++ (32 :: r)) : yearF t p false = ((y : Int), p + (digL (y / 100) 2 ++ digL y 2).length, false) := by
  rw [List.append_assoc] at h
  have e1 := numF_hit t false (y / 100) _ 2 0 p h
  have d1 := drop_hits t _ _ _ h
  rw [digL_length] at d1
  have e2 := numF_hit t false y _ 2 0 (p + 2) d1
  have d1' := d1
  rw [digL2_cons, List.cons_append] at d1'
  have e3 := pk_hit t (p + 2) _ _ d1'
  unfold yearF
  simp only [e1, e2, e3, db_dig, if_true]
  simp only [Prod.mk.injEq, List.length_append, digL_length, and_true]
  omega
theorem year2_at (t : List UInt8) (y : Nat) (hy1 : 1970 ≤ y) (hy2 : y ≤ 2068) (p : Nat) (r : List UInt8) (h : t.drop p = digL y 2 ++ (32 :: r)) : yearF t p false = ((y : Int), p + (digL y 2).length, false) := by
  have e1 := numF_hit t false y _ 2 0 p h
  have d1 := drop_hits t _ _ _ h
  rw [digL_length] at d1
  have e3 := pk_hit t (p + 2) _ _ d1
  unfold yearF
  simp only [e1, e3]
  rw [if_neg (by decide), digL_length]
  have e : (0 : Int) * 10 ^ 2 + ((y % 10 ^ 2 : Nat) : Int) = ((y % 100 : Nat) : Int) := by omega
  rw [e]
  split
  · simp only [Prod.mk.injEq, and_true]; omega
  · simp only [Prod.mk.injEq, and_true]; omega
end Go.Proofs.Ytnaafdennieedaa
