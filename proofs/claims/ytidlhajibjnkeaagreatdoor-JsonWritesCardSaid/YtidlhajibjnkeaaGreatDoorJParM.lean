/- JSON: whole texts; blanks around. -/
import Derived.Test.YtidlhajibjnkeaaGreatDoorJPr
namespace Go.Proofs.YtidlhajibjnkeaaGreatDoor
open Go.RowKit

theorem skp_bls : ∀ (A pre rest : List UInt8), (∀ c ∈ A, isBl c = true) → skp (pre ++ (A ++ rest)) pre.length = skp (pre ++ (A ++ rest)) (pre.length + A.length)
  | [], pre, rest, _ => rfl
  | c :: t, pre, rest, h => by
    have h1 := skp_bl (at_pre pre c (t ++ rest)) (h c (by simp))
    have h2 := skp_bls t (pre ++ [c]) rest (fun x hx => h x (by simp [hx]))
    simp only [List.append_assoc, List.singleton_append, List.length_append, List.length_singleton] at h2
    simp only [List.cons_append, List.length_cons]
    rw [h1, h2]
    congr 1
    omega
theorem valP_skp {t : List UInt8} {p q : Nat} (h : skp t p = q) (hq : skp t q = q) : ∀ d, valP t d p = valP t d q
  | 0 => by rw [valP, valP, h, hq]
  | d + 1 => by rw [valP, valP, h, hq]
theorem skp_all (pre A : List UInt8) (h : ∀ c ∈ A, isBl c = true) : skp (pre ++ A) pre.length = (pre ++ A).length := by
  have := skp_bls A pre [] h
  rw [List.append_nil] at this
  rw [this, ← List.length_append, skp_end]
/-- A value's text, blanks around it. -/
theorem par_any {v : JV} {A B : List UInt8} (hm : mayV v 64 = true) (hA : ∀ c ∈ A, isBl c = true) (hB : ∀ c ∈ B, isBl c = true) (hl : (A ++ (prV v ++ B)).length ≤ 20000) :
    parP (A ++ (prV v ++ B)) = .ok v (A ++ (prV v ++ B)).length := by
  obtain ⟨c, r, e, hb, _, _⟩ := prV_head hm
  have hstop : v.kind = 4 → stopB B = true := by
    intro _
    cases B with
    | nil => rfl
    | cons b t =>
      have := hB b (by simp)
      simp only [isBl, Bool.or_eq_true, beq_iff_eq] at this
      rcases this with ((rfl | rfl) | rfl) | rfl <;> rfl
  have h1 := rd_pr v 64 A B _ rfl hm hstop
  have hat : (A ++ (prV v ++ B))[A.length]? = some c := by rw [e]; exact at_pre A c _
  have hs0 := skp_bls A [] (prV v ++ B) hA
  simp only [List.nil_append, List.length_nil, Nat.zero_add] at hs0
  have hs1 := skp_no hat hb
  rw [hs1] at hs0
  unfold parP
  rw [if_neg (by omega), valP_skp hs0 hs1 64, h1]
  dsimp only
  have hs2 := skp_all (A ++ prV v) B hB
  rw [List.append_assoc, List.length_append] at hs2
  rw [hs2, if_neg (by omega)]
theorem par_pr {v : JV} (hm : mayV v 64 = true) (hl : (prV v).length ≤ 20000) : parP (prV v) = .ok v (prV v).length := by
  have := par_any (A := []) (B := []) hm (by simp) (by simp) (by simpa using hl)
  simpa using this
/-- Lists, or objects, in one another. -/
def nst (o : Bool) : Nat → JV
  | 0 => if o then .mk 7 0 [] [] [] else .mk 6 0 [] [] []
  | k + 1 => if o then .mk 7 0 [] [] [([97], nst o k)] else .mk 6 0 [] [nst o k] []
/-- The text after so many rounds. -/
def nsT (o : Bool) : Nat → List UInt8
  | 0 => []
  | k + 1 => prV (nst o k)
theorem quoA : quo [97] = [34, 97, 34] := by decide
theorem txA : txF [97] = true := by kernel_rfl
theorem nst_pr (o : Bool) (k : Nat) : prV (nst o (k + 1)) = if o then 123 :: 34 :: 97 :: 34 :: 58 :: (prV (nst o k) ++ [125]) else 91 :: (prV (nst o k) ++ [93]) := by
  cases o with
  | true =>
    show 123 :: ((prU [([97], nst true k)]).drop 1 ++ [125]) = _
    simp [prU, quoA]
  | false =>
    show 91 :: ((prT [nst false k]).drop 1 ++ [93]) = _
    simp [prT]
theorem txN : txF [] = true := by kernel_rfl
theorem nst_may (o : Bool) : ∀ (k d : Nat), k < d → mayV (nst o k) d = true
  | 0, d, h => by
    cases o <;> simp [nst, mayV, fitV, mayL, mayM, txN] <;> omega
  | k + 1, d, h => by
    have ih := nst_may o k (d - 1) (by omega)
    cases o <;> simp [nst, mayV, fitV, mayL, mayM, txN, ih, txA, aftB] <;> omega
theorem nst_head (o : Bool) (k : Nat) : ∃ r, prV (nst o k) = (if o then 123 else 91) :: r := by
  cases k with
  | zero => cases o <;> exact ⟨_, rfl⟩
  | succ k => rw [nst_pr]; cases o <;> exact ⟨_, rfl⟩
/-- Nested too deep. -/
theorem nst_deep (o : Bool) : ∀ (d k : Nat) (pre rest T : List UInt8), d ≤ k → T = pre ++ (prV (nst o k) ++ rest) → valP T d pre.length = .err 10
  | 0, k, pre, rest, T, _, hT => by
    obtain ⟨r, e⟩ := nst_head o k
    have hat : T[pre.length]? = some (if o then 123 else 91) := by rw [hT, e]; exact at_pre pre _ _
    have hs := skp_no hat (by cases o <;> decide)
    rw [valP, hs, hat]
    cases o <;> rfl
  | d + 1, k, pre, rest, T, h, hT => by
    obtain ⟨k, rfl⟩ : ∃ j, k = j + 1 := ⟨k - 1, by omega⟩
    obtain ⟨r, e⟩ := nst_head o k
    rw [nst_pr] at hT
    cases o with
    | true =>
      simp only [if_true] at hT e
      have hat : T[pre.length]? = some 123 := by rw [hT]; exact at_pre pre _ _
      rw [valP_at hat (by decide)]
      simp only [casP]
      rw [if_neg (by decide), if_pos trivial]
      have hat1 : T[pre.length + 1]? = some 34 := by rw [hT]; exact at_pre1
      unfold objP
      rw [entP_no hat1 (by decide) (by decide)]
      dsimp only
      obtain ⟨n, hn⟩ : ∃ n, T.length + 1 = n + 1 := ⟨_, rfl⟩
      rw [hn, mesP]
      have ih := nst_deep true d k (pre ++ [123, 34, 97, 34, 58]) ([125] ++ rest) T (by omega) (by rw [hT]; simp)
      have ht := txtP_pr (pre ++ [123]) [97] (58 :: (prV (nst true k) ++ [125] ++ rest)) txA
      have e1 : pre ++ [123] ++ (quo [97] ++ 58 :: (prV (nst true k) ++ [125] ++ rest)) = T := by rw [hT, quoA]; simp
      rw [e1, quoA] at ht
      simp only [List.length_append, List.length_cons, List.length_nil] at ht ih
      have hlt := (List.getElem?_eq_some_iff.1 hat1).1
      have hat2 : T[pre.length + 4]? = some 58 := by
        rw [hT]; simp
      have hm : memP (valP T d) T [] (pre.length + 1) = .err 10 := by
        unfold memP
        rw [skp_no hat1 (by decide), if_neg (by omega), ht]
        dsimp only
        rw [if_neg (by simp), skp_no hat2 (by decide), hat2]
        dsimp only
        rw [if_neg (by simp), ih]
      have hm' : memP (valP T d) T (([] : List MemT).map (fun m => m.1)) (pre.length + 1) = .err 10 := hm
      rw [hm']
      rfl
    | false =>
      have hT : T = pre ++ (91 :: (prV (nst false k) ++ [93]) ++ rest) := hT
      have e : prV (nst false k) = 91 :: r := e
      have hat : T[pre.length]? = some 91 := by rw [hT]; exact at_pre pre _ _
      rw [valP_at hat (by decide)]
      simp only [casP]
      rw [if_pos trivial]
      have hat1 : T[pre.length + 1]? = some 91 := by rw [hT, e]; exact at_pre1
      unfold lstP
      rw [entP_no hat1 (by decide) (by decide)]
      dsimp only
      obtain ⟨n, hn⟩ : ∃ n, T.length + 1 = n + 1 := ⟨_, rfl⟩
      have ih := nst_deep false d k (pre ++ [91]) ([93] ++ rest) T (by omega) (by rw [hT]; simp)
      simp only [List.length_append, List.length_cons, List.length_nil] at ih
      rw [hn, itsP, ih]
      rfl
theorem nsT_len (o : Bool) : ∀ k, (nsT o k).length ≤ 6 * k
  | 0 => Nat.le_refl _
  | 1 => by cases o <;> decide
  | k + 2 => by
    have := nsT_len o (k + 1)
    simp only [nsT] at this ⊢
    rw [nst_pr]
    cases o <;> simp <;> omega
theorem par_nst (o : Bool) (k : Nat) (hk : 1 ≤ k) (hk2 : k ≤ 200) : (k ≤ 64 → parP (nsT o k) = .ok (nst o (k - 1)) (nsT o k).length ∧ mayV (nst o (k - 1)) 64 = true) ∧ (64 < k → parP (nsT o k) = .err 10) := by
  obtain ⟨j, rfl⟩ : ∃ j, k = j + 1 := ⟨k - 1, by omega⟩
  have hl := nsT_len o (j + 1)
  simp only [nsT, Nat.add_sub_cancel] at hl ⊢
  refine ⟨fun h => ⟨par_pr (nst_may o j 64 (by omega)) (by omega), nst_may o j 64 (by omega)⟩, fun h => ?_⟩
  unfold parP
  rw [if_neg (by omega)]
  have := nst_deep o 64 j [] [] (prV (nst o j)) (by omega) (by simp)
  simp only [List.length_nil] at this
  rw [this]
theorem digP_pt (pre rest : List UInt8) (sg : Int) (u : Nat) (c : UInt8) (hc : c = 46 ∨ c = 101 ∨ c = 69) : digP (pre ++ (Lib.decDigits u ++ c :: rest)) sg pre.length = .err 4 := by
  have hd : dgs ((pre ++ (Lib.decDigits u ++ c :: rest)).drop pre.length) = Lib.decDigits u := by
    rw [List.drop_left]
    exact dgs_all _ _ (dec_dg u) (fun d hd => by
      simp only [List.head?_cons, Option.some.injEq] at hd
      subst hd
      rcases hc with rfl | rfl | rfl <;> decide)
  have hp := dec_ne u
  unfold digP
  rw [hd, if_neg (by rw [List.length_append, List.length_append]; omega), if_neg, if_pos]
  · refine ⟨c, ?_, hc⟩
    rw [List.getElem?_append_right (by omega), List.getElem?_append_right (by omega)]
    have e : pre.length + (Lib.decDigits u).length - pre.length - (Lib.decDigits u).length = 0 := by omega
    rw [e]; rfl
  · rintro (h | ⟨h1, h2⟩)
    · omega
    · rw [List.getElem?_append_right (Nat.le_refl _), Nat.sub_self, List.getElem?_append_left hp] at h1
      have := dec_zero u h1
      omega
theorem numP_pt (pre rest : List UInt8) (n : Int) (c : UInt8) (hc : c = 46 ∨ c = 101 ∨ c = 69) : numP (pre ++ (Lib.itoa n ++ c :: rest)) pre.length = .err 4 := by
  unfold numP Lib.itoa
  by_cases h : n < 0
  · rw [if_pos h]
    have e : (pre ++ (45 :: Lib.decDigits n.natAbs ++ c :: rest))[pre.length]? = some 45 := at_pre pre 45 _
    rw [if_pos e]
    have := digP_pt (pre ++ [45]) rest (-1) n.natAbs c hc
    rw [List.append_assoc, List.length_append] at this
    simpa using this
  · rw [if_neg h]
    have hp := dec_ne n.toNat
    have e : ¬ (pre ++ (Lib.decDigits n.toNat ++ c :: rest))[pre.length]? = some 45 := by
      rw [List.getElem?_append_right (Nat.le_refl _), Nat.sub_self, List.getElem?_append_left hp, List.getElem?_eq_getElem hp]
      intro h2
      have := dec_dg n.toNat _ (List.getElem_mem hp)
      rw [Option.some.inj h2] at this
      exact absurd this (by decide)
    rw [if_neg e]
    exact digP_pt pre rest 1 n.toNat c hc
theorem par_of {T : List UInt8} (hl : T.length ≤ 20000) {e : Nat} (h : valP T 64 0 = .err e) : parP T = .err e := by
  unfold parP
  rw [if_neg (by omega), h]
theorem val_num {T : List UInt8} {c : UInt8} {r : List UInt8} (hT : T = c :: r) (hc : c = 45 ∨ dgJ c = true) : valP T 64 0 = numV (numP T 0) := by
  have hb : isBl c = false := by
    rcases hc with rfl | hc
    · rfl
    · rw [dgJ_iff] at hc
      simp only [isBl, Bool.or_eq_false_iff, beq_eq_false_iff_ne]
      refine ⟨⟨⟨?_, ?_⟩, ?_⟩, ?_⟩ <;> (rintro rfl; exact absurd hc (by decide))
  rw [valP_at (c := c) (by rw [hT]; rfl) hb, casP_num hc]
theorem par_num (n : Int) (hl : (Lib.itoa n).length ≤ 100) : parP (Lib.itoa n) = if 9007199254740991 < n ∨ n < -9007199254740991 then .err 1 else .ok (.mk 4 n [] [] []) (Lib.itoa n).length := by
  obtain ⟨c, r, e, hc, _⟩ := itoa_head n
  have h1 := val_num e hc
  have h2 := numP_pr [] [] n rfl
  simp only [List.nil_append, List.append_nil, List.length_nil, Nat.zero_add] at h2
  by_cases h : 9007199254740991 < n ∨ n < -9007199254740991
  · rw [if_pos h] at h2 ⊢
    exact par_of (by omega) (by rw [h1, h2]; rfl)
  · rw [if_neg h] at h2 ⊢
    unfold parP
    rw [if_neg (by omega), h1, h2]
    simp only [numV, skp_end]
    rw [if_neg (by omega)]
theorem par_pt (n : Int) (c : UInt8) (rest : List UInt8) (hc : c = 46 ∨ c = 101 ∨ c = 69) (hl : (Lib.itoa n ++ c :: rest).length ≤ 20000) : parP (Lib.itoa n ++ c :: rest) = .err 4 := by
  obtain ⟨d, r, e, hd, _⟩ := itoa_head n
  have h1 := val_num (T := Lib.itoa n ++ c :: rest) (c := d) (r := r ++ c :: rest) (by rw [e]; rfl) hd
  have h2 := numP_pt [] rest n c hc
  simp only [List.nil_append, List.length_nil] at h2
  exact par_of hl (by rw [h1, h2]; rfl)
theorem par_0 (n : Int) (hl : (Lib.itoa n).length ≤ 100) : parP (48 :: Lib.itoa n) = .err 4 := by
  have h1 := val_num (T := 48 :: Lib.itoa n) rfl (.inr (by decide))
  by_cases h : n < 0
  · have e : Lib.itoa n = 45 :: Lib.decDigits n.natAbs := by unfold Lib.itoa; rw [if_pos h]
    have h2 : numP (48 :: Lib.itoa n) 0 = .ok 0 1 := by
      unfold numP
      rw [if_neg (by simp), e]
      unfold digP
      have hd : dgs ((48 :: 45 :: Lib.decDigits n.natAbs).drop 0) = [48] := by simp [dgs, dgJ]
      rw [hd]
      simp [capF]
    unfold parP
    rw [if_neg (by simp; omega), h1, h2]
    have hs : skp (48 :: Lib.itoa n) 1 = 1 := skp_no (c := 45) (by rw [e]; rfl) (by decide)
    simp only [numV, hs]
    rw [if_pos (by rw [e]; simp)]
  · have e : Lib.itoa n = Lib.decDigits n.toNat := by unfold Lib.itoa; rw [if_neg h]
    have hp := dec_ne n.toNat
    have h2 : numP (48 :: Lib.itoa n) 0 = .err 4 := by
      unfold numP
      rw [if_neg (by simp), e]
      unfold digP
      have hd : dgs ((48 :: Lib.decDigits n.toNat).drop 0) = 48 :: Lib.decDigits n.toNat := by
        have := dgs_all (48 :: Lib.decDigits n.toNat) [] (by intro c hc; rcases List.mem_cons.1 hc with rfl | hc; decide; exact dec_dg _ c hc) (by simp)
        simpa using this
      rw [hd, if_neg (by simp), if_pos (.inr ⟨rfl, by simp; omega⟩)]
    exact par_of (by simp; omega) (by rw [h1, h2]; rfl)
theorem may_num (n : Int) : mayV (.mk 4 n [] [] []) 64 = (decide (-9007199254740991 ≤ n) && decide (n ≤ 9007199254740991)) := by
  simp [mayV, fitV, mayL, mayM, txN]
theorem itoa_len {n : Int} (h : -9223372036854775808 ≤ n ∧ n ≤ 9223372036854775807) : (Lib.itoa n).length ≤ 21 := by
  unfold Lib.itoa
  have hd : ∀ k u : Nat, u < 10 ^ k → 1 ≤ k → Lib.nDigits u ≤ k := by
    intro k
    induction k with
    | zero => intro u _ h; omega
    | succ k ih =>
      intro u hu _
      by_cases hs : u < 10
      · rw [Lib.nDigits_small hs]; omega
      · rw [Lib.nDigits_big hs]
        have hk : 1 ≤ k := by
          rcases k with _ | k
          · simp at hu; omega
          · omega
        have := ih (u / 10) (by rw [Nat.pow_succ] at hu; omega) hk
        omega
  split
  · rw [List.length_cons, Lib.decDigits_length]
    have := hd 20 n.natAbs (by omega) (by omega)
    omega
  · rw [Lib.decDigits_length]
    have := hd 20 n.toNat (by omega) (by omega)
    omega
end Go.Proofs.YtidlhajibjnkeaaGreatDoor
