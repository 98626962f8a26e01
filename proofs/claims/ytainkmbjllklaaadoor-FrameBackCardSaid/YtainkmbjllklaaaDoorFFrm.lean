/- Frames one behind the other are read as their records. -/
import Derived.Test.YtainkmbjllklaaaDoorFScan
namespace Go.Proofs.YtainkmbjllklaaaDoor
open Go.RowKit

theorem win_at (a m b : List UInt8) : win (a ++ (m ++ b)) a.length m.length = m := by simp [win]
theorem win_in (a b c : List UInt8) (p k : Nat) (hp : p = a.length + b.length) (hk : k = c.length) (d : List UInt8) : win (a ++ (b ++ (c ++ d))) p k = c := by
  subst hp hk
  have : a ++ (b ++ (c ++ d)) = (a ++ b) ++ (c ++ d) := by simp
  rw [this, ← List.length_append]
  exact win_at _ _ _
/-- Bytes that begin no frame. -/
theorem recL_short (l : List UInt8) (p : Nat) (h : l.length < p + 6) : recL l p = none := by unfold recL; rw [if_pos h]
theorem scanL_end (l : List UInt8) (f : Nat) : scanL l f l.length = [] := by
  cases f with
  | zero => rfl
  | succ f => simp [scanL, recL_short l l.length (by omega)]
theorem putL_succ (n wd : Nat) : putL n (wd + 1) = putL (n / 256) wd ++ [UInt8.ofNat n] := by
  unfold putL
  rw [List.range_succ, List.map_append]
  congr 1
  · apply List.map_congr_left
    intro j hj
    have := List.mem_range.1 hj
    unfold pb
    rw [Nat.div_div_eq_div_mul, show wd + 1 - 1 - j = (wd - 1 - j) + 1 by omega, Nat.pow_succ, Nat.mul_comm 256]
  · simp [pb]
theorem numL_putL : ∀ (wd n : Nat), n < 256 ^ wd → numL (putL n wd) = n
  | 0, n, h => by simp at h; subst h; rfl
  | wd + 1, n, h => by
    rw [putL_succ, numL_snoc, numL_putL wd (n / 256) (by rw [Nat.pow_succ] at h; omega), UInt8.toNat_ofNat']
    omega
/-- A frame is read as its record, wherever it stands. -/
theorem recL_frm (a p b : List UInt8) (hp : p.length ≤ 60000) : recL (a ++ (frmL p ++ b)) a.length = some p := by
  obtain ⟨L2, h2⟩ : ∃ L2, L2 = putL p.length 2 := ⟨_, rfl⟩
  obtain ⟨c, hc⟩ : ∃ c, c = crcN (L2 ++ p) := ⟨_, rfl⟩
  obtain ⟨L4, h4⟩ : ∃ L4, L4 = putL c 4 := ⟨_, rfl⟩
  have l2 : L2.length = 2 := by rw [h2]; exact putL_length _ _
  have l4 : L4.length = 4 := by rw [h4]; exact putL_length _ _
  have n2 : numL L2 = p.length := by rw [h2]; exact numL_putL 2 _ (by omega)
  have n4 : numL L4 = c := by rw [h4]; exact numL_putL 4 _ (by rw [hc]; exact crcN_lt _)
  have e : a ++ (frmL p ++ b) = a ++ (L2 ++ (L4 ++ (p ++ b))) := by
    unfold frmL
    rw [← h2, ← hc, ← h4]
    simp
  have w2 : win (a ++ (L2 ++ (L4 ++ (p ++ b)))) a.length 2 = L2 := by rw [← l2]; exact win_at _ _ _
  have w4 : win (a ++ (L2 ++ (L4 ++ (p ++ b)))) (a.length + 2) 4 = L4 := win_in a L2 L4 _ _ (by omega) (by omega) _
  have wp : win (a ++ (L2 ++ (L4 ++ (p ++ b)))) (a.length + 6) p.length = p := by
    have : a ++ (L2 ++ (L4 ++ (p ++ b))) = a ++ ((L2 ++ L4) ++ (p ++ b)) := by simp
    rw [this]
    exact win_in a (L2 ++ L4) p _ _ (by simp; omega) rfl _
  rw [e]
  unfold recL
  rw [w2, n2, w4, n4, wp, if_neg (by simp; omega), if_neg (by simp; omega), if_pos hc.symm]
/-- Frames one behind the other; their records with the places behind them. -/
def frms : List (List UInt8) → List UInt8
  | [] => []
  | p :: t => frmL p ++ frms t
def endsL : Nat → List (List UInt8) → List (Nat × List UInt8)
  | _, [] => []
  | k, p :: t => (k + 6 + p.length, p) :: endsL (k + 6 + p.length) t
theorem scanL_frms : ∀ (rs : List (List UInt8)) (a b : List UInt8) (f : Nat), (∀ p ∈ rs, p.length ≤ 60000) →
    scanL (a ++ (frms rs ++ b)) (f + rs.length) a.length = endsL a.length rs ++ scanL (a ++ (frms rs ++ b)) f (a.length + (frms rs).length)
  | [], a, b, f, _ => by simp [frms, endsL]
  | p :: t, a, b, f, h => by
    have e : a ++ (frms (p :: t) ++ b) = a ++ (frmL p ++ (frms t ++ b)) := by simp [frms]
    have e2 : a ++ (frmL p ++ (frms t ++ b)) = (a ++ frmL p) ++ (frms t ++ b) := by simp
    have hl : (a ++ frmL p).length = a.length + 6 + p.length := by rw [List.length_append, frmL_len]; omega
    have ih := scanL_frms t (a ++ frmL p) b f (fun q hq => h q (List.mem_cons_of_mem _ hq))
    rw [hl] at ih
    have hf : f + (p :: t).length = (f + t.length) + 1 := by simp; omega
    have hn : a.length + (frms (p :: t)).length = a.length + 6 + p.length + (frms t).length := by simp only [frms, List.length_append, frmL_len]; omega
    rw [e, hf, hn, scanL, recL_frm a p _ (h p (by simp))]
    simp only
    rw [e2, ih]
    rfl
end Go.Proofs.YtainkmbjllklaaaDoor
