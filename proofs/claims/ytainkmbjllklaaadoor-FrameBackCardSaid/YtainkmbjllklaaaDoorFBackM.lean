/- Frames cut off, frames with one byte turned. -/
import Derived.Test.YtainkmbjllklaaaDoorFJoinsM
namespace Go.Proofs.YtainkmbjllklaaaDoor
open Go.RowKit

/-- Where the first n records end. -/
def plL (rs : List (List UInt8)) (n : Nat) : Nat := (frms (rs.take n)).length
theorem plL_zero (rs : List (List UInt8)) : plL rs 0 = 0 := by simp [plL, frms]
theorem plL_succ (rs : List (List UInt8)) (n : Nat) (h : n < rs.length) : plL rs (n + 1) = plL rs n + (rs[n].length + 6) := by
  unfold plL
  rw [List.take_succ_eq_append_getElem h, frms_snoc, List.length_append, frmL_len]
theorem plL_all (rs : List (List UInt8)) : plL rs rs.length = (frms rs).length := by simp [plL]
theorem plL_split (rs : List (List UInt8)) (n : Nat) : frms rs = frms (rs.take n) ++ frms (rs.drop n) := by rw [← frms_append, List.take_append_drop]
theorem plL_le (rs : List (List UInt8)) (n : Nat) : plL rs n ≤ (frms rs).length := by
  have h := congrArg List.length (plL_split rs n)
  rw [List.length_append] at h
  unfold plL; omega
theorem plL_next (rs : List (List UInt8)) (n : Nat) (h : n < rs.length) : frms rs = frms (rs.take n) ++ (frmL rs[n] ++ frms (rs.drop (n + 1))) := by
  rw [plL_split rs n, List.drop_eq_getElem_cons h]; rfl
/-- A part of a frame is none. -/
theorem recL_part (a p : List UInt8) (m : Nat) (hp : p.length ≤ 60000) (hm : m < p.length + 6) : recL (a ++ (frmL p).take m) a.length = none := by
  have hl : (a ++ (frmL p).take m).length = a.length + m := by rw [List.length_append, List.length_take, frmL_len]; omega
  by_cases h6 : m < 6
  · exact recL_short _ _ (by omega)
  · have hw : win (a ++ (frmL p).take m) a.length 2 = putL p.length 2 := by
      have e : (frmL p).take m = putL p.length 2 ++ (putL (crcN (putL p.length 2 ++ p)) 4 ++ p).take (m - 2) := by
        unfold frmL
        rw [List.take_append, List.take_of_length_le (by rw [putL_length]; omega), putL_length]
      rw [e]
      have := win_at a (putL p.length 2) ((putL (crcN (putL p.length 2 ++ p)) 4 ++ p).take (m - 2))
      rwa [putL_length] at this
    unfold recL
    rw [hw, numL_putL 2 _ (by omega), if_neg (by omega), if_pos (by omega)]
theorem numL_inj : ∀ (k : Nat) (l m : List UInt8), l.length = k → m.length = k → numL l = numL m → l = m
  | 0, l, m, hl, hm, _ => by rw [List.eq_nil_of_length_eq_zero hl, List.eq_nil_of_length_eq_zero hm]
  | k + 1, l, m, hl, hm, h => by
    have h1 : l ≠ [] := by intro e; subst e; simp at hl
    have h2 : m ≠ [] := by intro e; subst e; simp at hm
    rw [← List.dropLast_concat_getLast h1, ← List.dropLast_concat_getLast h2] at h ⊢
    rw [numL_snoc, numL_snoc] at h
    have c1 := (l.getLast h1).toNat_lt
    have c2 := (m.getLast h2).toNat_lt
    have e1 : numL l.dropLast = numL m.dropLast := by omega
    have e2 : (l.getLast h1).toNat = (m.getLast h2).toNat := by omega
    rw [numL_inj k _ _ (by simp [hl]) (by simp [hm]) e1, UInt8.toNat_inj.1 e2]
/-- A frame with a byte turned behind its length is none. -/
theorem recL_turn (a p b : List UInt8) (q : Nat) (c : UInt8) (hp : p.length ≤ 60000) (h2 : 2 ≤ q) (hq : q < (frmL p).length) (hc : c ≠ (frmL p)[q]) : recL (a ++ ((frmL p).set q c ++ b)) a.length = none := by
  have hql : q < p.length + 6 := by rw [frmL_len] at hq; exact hq
  obtain ⟨L2, hL2⟩ : ∃ L2, L2 = putL p.length 2 := ⟨_, rfl⟩
  obtain ⟨s, hs⟩ : ∃ s, s = crcN (L2 ++ p) := ⟨_, rfl⟩
  obtain ⟨L4, hL4⟩ : ∃ L4, L4 = putL s 4 := ⟨_, rfl⟩
  have l2 : L2.length = 2 := by rw [hL2]; exact putL_length _ _
  have l4 : L4.length = 4 := by rw [hL4]; exact putL_length _ _
  have n2 : numL L2 = p.length := by rw [hL2]; exact numL_putL 2 _ (by omega)
  have n4 : numL L4 = s := by rw [hL4]; exact numL_putL 4 _ (by rw [hs]; exact crcN_lt _)
  have ef : frmL p = L2 ++ (L4 ++ p) := by unfold frmL; rw [← hL2, ← hs, ← hL4]
  have key : ∀ M4 P : List UInt8, M4.length = 4 → P.length = p.length → crcN (L2 ++ P) ≠ numL M4 → recL (a ++ (L2 ++ (M4 ++ (P ++ b)))) a.length = none := by
    intro M4 P hM hP hne
    have w2 : win (a ++ (L2 ++ (M4 ++ (P ++ b)))) a.length 2 = L2 := by rw [← l2]; exact win_at _ _ _
    have w4 : win (a ++ (L2 ++ (M4 ++ (P ++ b)))) (a.length + 2) 4 = M4 := win_in a L2 M4 _ _ (by omega) (by omega) _
    have wp : win (a ++ (L2 ++ (M4 ++ (P ++ b)))) (a.length + 6) p.length = P := by
      have : a ++ (L2 ++ (M4 ++ (P ++ b))) = a ++ ((L2 ++ M4) ++ (P ++ b)) := by simp
      rw [this]
      exact win_in a (L2 ++ M4) P _ _ (by simp; omega) hP.symm _
    unfold recL
    rw [w2, n2, w4, wp, if_neg (by simp; omega), if_neg (by simp; omega), if_neg hne]
  have e1 : (frmL p).set q c = L2 ++ (L4 ++ p).set (q - 2) c := by rw [ef, List.set_append, if_neg (by omega), l2]
  have g1 : (frmL p)[q] = (L4 ++ p)[q - 2]'(by simp; omega) := by
    simp only [ef]
    rw [List.getElem_append_right (by omega)]
    simp only [l2]
  by_cases h6 : q - 2 < 4
  · have e2 : (L4 ++ p).set (q - 2) c = L4.set (q - 2) c ++ p := by rw [List.set_append, if_pos (by omega)]
    have g2 : (L4 ++ p)[q - 2]'(by simp; omega) = L4[q - 2]'(by omega) := List.getElem_append_left (by omega)
    have hne : L4.set (q - 2) c ≠ L4 := by
      intro e
      apply hc
      refine Eq.trans ?_ (g1.trans g2).symm
      have := congrArg (fun l => l[q - 2]?) e
      simp only [List.getElem?_set_self (show q - 2 < L4.length by omega), List.getElem?_eq_getElem (show q - 2 < L4.length by omega)] at this
      exact Option.some.inj this
    rw [e1, e2]
    have := key (L4.set (q - 2) c) p (by simp [l4]) rfl (by
      intro e
      apply hne
      refine numL_inj 4 _ _ (by simp [l4]) l4 ?_
      rw [← e, n4, hs])
    simpa using this
  · have e2 : (L4 ++ p).set (q - 2) c = L4 ++ p.set (q - 6) c := by rw [List.set_append, if_neg (by omega), l4, show q - 2 - 4 = q - 6 by omega]
    have g2 : (L4 ++ p)[q - 2]'(by simp; omega) = p[q - 6]'(by omega) := by
      rw [List.getElem_append_right (by omega)]
      simp only [l4, show q - 2 - 4 = q - 6 by omega]
    rw [e1, e2]
    have hturn : crcN (L2 ++ p.set (q - 6) c) ≠ crcN (L2 ++ p) := by
      have := crc_turn (L2 ++ p) (q - 4) (by simp; omega) c (by
        rw [List.getElem_append_right (by omega)]
        simp only [l2, show q - 4 - 2 = q - 6 by omega]
        exact fun e => hc (e.trans (g1.trans g2).symm))
      rw [List.set_append, if_neg (by omega), l2, show q - 4 - 2 = q - 6 by omega] at this
      exact this
    have := key L4 (p.set (q - 6) c) l4 (by simp) (by rw [n4, hs]; exact hturn)
    simpa using this
/-- Frames cut off: the records that are whole. -/
theorem cut_whole (rs : List (List UInt8)) (hs : ∀ p ∈ rs, p.length ≤ 60000) (k n : Nat) (hn : n ≤ rs.length) (h1 : plL rs n ≤ k) (h2 : n = rs.length ∨ k < plL rs (n + 1)) :
    (scanL ((frms rs).take k) (((frms rs).take k).length + 1) 0).map (·.2) = rs.take n ∧ endOf (scanL ((frms rs).take k) (((frms rs).take k).length + 1) 0) = plL rs n := by
  have hs' : ∀ p ∈ rs.take n, p.length ≤ 60000 := fun p hp => hs p (List.mem_of_mem_take hp)
  have e : (frms rs).take k = frms (rs.take n) ++ (frms (rs.drop n)).take (k - plL rs n) := by
    rw [plL_split rs n, List.take_append, List.take_of_length_le (show (frms (rs.take n)).length ≤ k from h1)]; rfl
  rw [e]
  refine all_frms (rs.take n) _ hs' ?_
  by_cases hnl : n = rs.length
  · subst hnl
    simp only [List.drop_length, frms, List.take_nil, List.append_nil]
    exact recL_short _ _ (by omega)
  · have hlt : n < rs.length := by omega
    have h3 : k < plL rs n + (rs[n].length + 6) := by rw [← plL_succ rs n hlt]; omega
    have e2 : (frms (rs.drop n)).take (k - plL rs n) = (frmL rs[n]).take (k - plL rs n) := by
      rw [List.drop_eq_getElem_cons hlt]
      show (frmL rs[n] ++ _).take _ = _
      rw [List.take_append_of_le_length (by rw [frmL_len]; omega)]
    rw [e2]
    exact recL_part _ _ _ (hs _ (List.getElem_mem hlt)) (by omega)
theorem scanL_ge (l : List UInt8) : ∀ (f k : Nat), ∀ x ∈ scanL l f k, k ≤ x.1
  | 0, k, x, hx => by simp [scanL] at hx
  | f + 1, k, x, hx => by
    unfold scanL at hx
    cases hr : recL l k with
    | none => rw [hr] at hx; simp at hx
    | some p =>
      rw [hr] at hx
      simp only [List.mem_cons] at hx
      rcases hx with rfl | hx
      · show k ≤ k + 6 + p.length; omega
      · have := scanL_ge l f _ x hx; omega
theorem last_ge : ∀ (L : List (Nat × List UInt8)) (k b : Nat), b ≤ k → (∀ x ∈ L, b ≤ x.1) → b ≤ L.foldl (fun _ p => p.1) k
  | [], _, _, h, _ => h
  | x :: t, _, b, _, h2 => last_ge t x.1 b (h2 x (by simp)) (fun y hy => h2 y (List.mem_cons_of_mem _ hy))
/-- Frames, one byte of which is turned. -/
theorem turn_whole (rs : List (List UInt8)) (hs : ∀ p ∈ rs, p.length ≤ 60000) (p n : Nat) (c : UInt8) (hp : p < (frms rs).length) (hn : n < rs.length) (h1 : plL rs n ≤ p) (h2 : p < plL rs (n + 1)) (hc : c ≠ (frms rs)[p]) :
    (plL rs n + 2 ≤ p → (scanL ((frms rs).set p c) (((frms rs).set p c).length + 1) 0).map (·.2) = rs.take n ∧ endOf (scanL ((frms rs).set p c) (((frms rs).set p c).length + 1) 0) = plL rs n) ∧
    (∃ more, (scanL ((frms rs).set p c) (((frms rs).set p c).length + 1) 0).map (·.2) = rs.take n ++ more) ∧ plL rs n ≤ endOf (scanL ((frms rs).set p c) (((frms rs).set p c).length + 1) 0) := by
  have hs' : ∀ p ∈ rs.take n, p.length ≤ 60000 := fun p hp => hs p (List.mem_of_mem_take hp)
  rw [plL_succ rs n hn] at h2
  obtain ⟨q, hq⟩ : ∃ q, q = p - plL rs n := ⟨_, rfl⟩
  have e : (frms rs).set p c = frms (rs.take n) ++ ((frmL rs[n]).set q c ++ frms (rs.drop (n + 1))) := by
    rw [plL_next rs n hn, List.set_append, if_neg (show ¬ p < (frms (rs.take n)).length by unfold plL at h1; omega), List.set_append, if_pos (by rw [frmL_len]; unfold plL at *; omega)]
    rw [hq]; rfl
  have g : (frms rs)[p] = (frmL rs[n])[q]'(by rw [frmL_len]; omega) := by
    have : (frms rs)[p]? = (frmL rs[n])[q]? := by
      rw [plL_next rs n hn, List.getElem?_append_right (show (frms (rs.take n)).length ≤ p from h1), List.getElem?_append_left (by rw [frmL_len]; unfold plL at *; omega), hq]; rfl
    rw [List.getElem?_eq_getElem hp, List.getElem?_eq_getElem (by rw [frmL_len]; omega)] at this
    exact Option.some.inj this
  rw [e]
  refine ⟨fun h => all_frms (rs.take n) _ hs' (recL_turn _ _ _ q c (hs _ (List.getElem_mem hn)) (by omega) (by rw [frmL_len]; omega) (by rw [← g]; exact hc)), ?_⟩
  have hl : (rs.take n).length ≤ (frms (rs.take n)).length := by
    have : ∀ l : List (List UInt8), l.length ≤ (frms l).length := by
      intro l
      induction l with
      | nil => simp
      | cons p t ih => simp [frms, frmL_len]; omega
    exact this _
  obtain ⟨T, hT⟩ : ∃ T, T = (frmL rs[n]).set q c ++ frms (rs.drop (n + 1)) := ⟨_, rfl⟩
  rw [← hT]
  obtain ⟨f, hf⟩ : ∃ f, (frms (rs.take n) ++ T).length + 1 = f + (rs.take n).length := ⟨(frms (rs.take n) ++ T).length + 1 - (rs.take n).length, by rw [List.length_append]; omega⟩
  have hsc := scanL_frms (rs.take n) [] T f hs'
  simp only [List.nil_append, List.length_nil, Nat.zero_add] at hsc
  rw [hf, hsc]
  refine ⟨⟨_, by rw [List.map_append, endsL_recs]⟩, ?_⟩
  unfold endOf
  rw [List.foldl_append]
  refine last_ge _ _ _ ?_ (scanL_ge _ _ _)
  have := endOf_ends (rs.take n) 0
  rw [this]
  unfold plL; omega
end Go.Proofs.YtainkmbjllklaaaDoor
