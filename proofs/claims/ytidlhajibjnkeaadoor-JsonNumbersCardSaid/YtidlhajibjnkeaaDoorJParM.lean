/- JSON: whole texts; blanks around. -/
import Derived.Test.YtidlhajibjnkeaaDoorJPr
namespace Go.Proofs.YtidlhajibjnkeaaDoor
open Go.RowKit

theorem skp_bls : ∀ (A pre rest : List UInt8), (∀ c ∈ A, isBl c = true) → skp (pre ++ (A ++ rest)) pre.length = skp (pre ++ (A ++ rest)) (pre.length + A.length)
  | [], pre, rest, _ => rfl
  | c :: t, pre, rest, h => by
    have h1 := skp_bl (at_pre pre c (t ++ rest)) (h c (by simp))
    have h2 := skp_bls t (pre ++ [c]) rest (fun x hx => h x (by simp [hx]))
    simp only [List.append_assoc, List.singleton_append, List.length_append, List.length_singleton] at h2
    simp only [List.cons_append, List.length_cons]
    rw [h1, h2]
    congr 1
    omega
theorem valP_skp {t : List UInt8} {p q : Nat} (h : skp t p = q) (hq : skp t q = q) : ∀ d, valP t d p = valP t d q
  | 0 => by rw [valP, valP, h, hq]
  | d + 1 => by rw [valP, valP, h, hq]
theorem skp_all (pre A : List UInt8) (h : ∀ c ∈ A, isBl c = true) : skp (pre ++ A) pre.length = (pre ++ A).length := by
  have := skp_bls A pre [] h
  rw [List.append_nil] at this
  rw [this, ← List.length_append, skp_end]
/-- A value's text, blanks around it. -/
theorem par_any {v : JV} {A B : List UInt8} (hm : mayV v 64 = true) (hA : ∀ c ∈ A, isBl c = true) (hB : ∀ c ∈ B, isBl c = true) (hl : (A ++ (prV v ++ B)).length ≤ 20000) :
    parP (A ++ (prV v ++ B)) = .ok v (A ++ (prV v ++ B)).length := by
  obtain ⟨c, r, e, hb, _, _⟩ := prV_head hm
  have hstop : v.kind = 4 → stopB B = true := by
    intro _
    cases B with
    | nil => rfl
    | cons b t =>
      have := hB b (by simp)
      simp only [isBl, Bool.or_eq_true, beq_iff_eq] at this
      rcases this with ((rfl | rfl) | rfl) | rfl <;> rfl
  have h1 := rd_pr v 64 A B _ rfl hm hstop
  have hat : (A ++ (prV v ++ B))[A.length]? = some c := by rw [e]; exact at_pre A c _
  have hs0 := skp_bls A [] (prV v ++ B) hA
  simp only [List.nil_append, List.length_nil, Nat.zero_add] at hs0
  have hs1 := skp_no hat hb
  rw [hs1] at hs0
  unfold parP
  rw [if_neg (by omega), valP_skp hs0 hs1 64, h1]
  dsimp only
  have hs2 := skp_all (A ++ prV v) B hB
  rw [List.append_assoc, List.length_append] at hs2
  rw [hs2, if_neg (by omega)]
theorem par_pr {v : JV} (hm : mayV v 64 = true) (hl : (prV v).length ≤ 20000) : parP (prV v) = .ok v (prV v).length := by
  have := par_any (A := []) (B := []) hm (by simp) (by simp) (by simpa using hl)
  simpa using this
/-- Lists, or objects, in one another. -/
def nst (o : Bool) : Nat → JV
  | 0 => if o then .mk 7 0 [] [] [] else .mk 6 0 [] [] []
  | k + 1 => if o then .mk 7 0 [] [] [([97], nst o k)] else .mk 6 0 [] [nst o k] []
/-- The text after so many rounds. -/
def nsT (o : Bool) : Nat → List UInt8
  | 0 => []
  | k + 1 => prV (nst o k)
theorem quoA : quo [97] = [34, 97, 34] := by decide
theorem txA : txF [97] = true := by kernel_rfl
theorem nst_pr (o : Bool) (k : Nat) : prV (nst o (k + 1)) = if o then 123 :: 34 :: 97 :: 34 :: 58 :: (prV (nst o k) ++ [125]) else 91 :: (prV (nst o k) ++ [93]) := by
  cases o with
  | true =>
    show 123 :: ((prU [([97], nst true k)]).drop 1 ++ [125]) = _
    simp [prU, quoA]
  | false =>
    show 91 :: ((prT [nst false k]).drop 1 ++ [93]) = _
    simp [prT]
theorem txN : txF [] = true := by kernel_rfl
theorem nst_may (o : Bool) : ∀ (k d : Nat), k < d → mayV (nst o k) d = true
  | 0, d, h => by
    cases o <;> simp [nst, mayV, fitV, mayL, mayM, txN] <;> omega
  | k + 1, d, h => by
    have ih := nst_may o k (d - 1) (by omega)
    cases o <;> simp [nst, mayV, fitV, mayL, mayM, txN, ih, txA, aftB] <;> omega
theorem nst_head (o : Bool) (k : Nat) : ∃ r, prV (nst o k) = (if o then 123 else 91) :: r := by
  cases k with
  | zero => cases o <;> exact ⟨_, rfl⟩
  | succ k => rw [nst_pr]; cases o <;> exact ⟨_, rfl⟩
/-- Nested too deep. -/
theorem nst_deep (o : Bool) : ∀ (d k : Nat) (pre rest T : List UInt8), d ≤ k → T = pre ++ (prV (nst o k) ++ rest) → valP T d pre.length = .err 10
  | 0, k, pre, rest, T, _, hT => by
    obtain ⟨r, e⟩ := nst_head o k
    have hat : T[pre.length]? = some (if o then 123 else 91) := by rw [hT, e]; exact at_pre pre _ _
    have hs := skp_no hat (by cases o <;> decide)
    rw [valP, hs, hat]
    cases o <;> rfl
  | d + 1, k, pre, rest, T, h, hT => by
    obtain ⟨k, rfl⟩ : ∃ j, k = j + 1 := ⟨k - 1, by omega⟩
    obtain ⟨r, e⟩ := nst_head o k
    rw [nst_pr] at hT
    cases o with
    | true =>
      simp only [if_true] at hT e
      have hat : T[pre.length]? = some 123 := by rw [hT]; exact at_pre pre _ _
      rw [valP_at hat (by decide)]
      simp only [casP]
      rw [if_neg (by decide), if_pos trivial]
      have hat1 : T[pre.length + 1]? = some 34 := by rw [hT]; exact at_pre1
      unfold objP
      rw [entP_no hat1 (by decide) (by decide)]
      dsimp only
      obtain ⟨n, hn⟩ : ∃ n, T.length + 1 = n + 1 := ⟨_, rfl⟩
      rw [hn, mesP]
      have ih := nst_deep true d k (pre ++ [123, 34, 97, 34, 58]) ([125] ++ rest) T (by omega) (by rw [hT]; simp)
      have ht := txtP_pr (pre ++ [123]) [97] (58 :: (prV (nst true k) ++ [125] ++ rest)) txA
      have e1 : pre ++ [123] ++ (quo [97] ++ 58 :: (prV (nst true k) ++ [125] ++ rest)) = T := by rw [hT, quoA]; simp
      rw [e1, quoA] at ht
      simp only [List.length_append, List.length_cons, List.length_nil] at ht ih
      have hlt := (List.getElem?_eq_some_iff.1 hat1).1
      have hat2 : T[pre.length + 4]? = some 58 := by
        rw [hT]; simp
      have hm : memP (valP T d) T [] (pre.length + 1) = .err 10 := by
        unfold memP
        rw [skp_no hat1 (by decide), if_neg (by omega), ht]
        dsimp only
        rw [if_neg (by simp), skp_no hat2 (by decide), hat2]
        dsimp only
        rw [if_neg (by simp), ih]
      have hm' : memP (valP T d) T (([] : List MemT).map (fun m => m.1)) (pre.length + 1) = .err 10 := hm
      rw [hm']
      rfl
    | false =>
      have hT : T = pre ++ (91 :: (prV (nst false k) ++ [93]) ++ rest) := hT
      have e : prV (nst false k) = 91 :: r := e
      have hat : T[pre.length]? = some 91 := by rw [hT]; exact at_pre pre _ _
      rw [valP_at hat (by decide)]
      simp only [casP]
      rw [if_pos trivial]
      have hat1 : T[pre.length + 1]? = some 91 := by rw [hT, e]; exact at_pre1
      unfold lstP
      rw [entP_no hat1 (by decide) (by decide)]
      dsimp only
      obtain ⟨n, hn⟩ : ∃ n, T.length + 1 = n + 1 := ⟨_, rfl⟩
      have ih := nst_deep false d k (pre ++ [91]) ([93] ++ rest) T (by omega) (by rw [hT]; simp)
      simp only [List.length_append, List.length_cons, List.length_nil] at ih
      rw [hn, itsP, ih]
      rfl
theorem nsT_len (o : Bool) : ∀ k, (nsT o k).length ≤ 6 * k
  | 0 => Nat.le_refl _
  | 1 => by cases o <;> decide
  | k + 2 => by
    have := nsT_len o (k + 1)
    simp only [nsT] at this ⊢
    rw [nst_pr]
    cases o <;> simp <;> omega
theorem par_nst (o : Bool) (k : Nat) (hk : 1 ≤ k) (hk2 : k ≤ 200) : (k ≤ 64 → parP (nsT o k) = .ok (nst o (k - 1)) (nsT o k).length ∧ mayV (nst o (k - 1)) 64 = true) ∧ (64 < k → parP (nsT o k) = .err 10) := by
  obtain ⟨j, rfl⟩ : ∃ j, k = j + 1 := ⟨k - 1, by omega⟩
  have hl := nsT_len o (j + 1)
  simp only [nsT, Nat.add_sub_cancel] at hl ⊢
  refine ⟨fun h => ⟨par_pr (nst_may o j 64 (by omega)) (by omega), nst_may o j 64 (by omega)⟩, fun h => ?_⟩
  unfold parP
  rw [if_neg (by omega)]
  have := nst_deep o 64 j [] [] (prV (nst o j)) (by omega) (by simp)
  simp only [List.length_nil] at this
  rw [this]
end Go.Proofs.YtidlhajibjnkeaaDoor
