/- hbllaw9's first; what All tells of frames. -/
import Derived.Test.YtainkmbjllklaaaDoorFAll
import Derived.Test.YtainkmbjllklaaaDoorFFrm
import Derived.Test.YtainkmbjllklaaaDoorLRd
namespace Go.Proofs.YtainkmbjllklaaaDoor
open Go.RowKit

/-- What stands behind begins no frame. -/
theorem scanL_none (l : List UInt8) (p : Nat) (h : recL l p = none) (f : Nat) : scanL l f p = [] := by
  cases f with
  | zero => rfl
  | succ f => simp [scanL, h]
theorem frms_length : ∀ rs : List (List UInt8), (frms rs).length = (rs.map fun p => p.length + 6).sum
  | [] => rfl
  | p :: t => by simp [frms, frmL_len, frms_length t]
theorem frms_append : ∀ a b : List (List UInt8), frms (a ++ b) = frms a ++ frms b
  | [], b => rfl
  | p :: t, b => by simp [frms, frms_append t b]
theorem endsL_recs : ∀ (k : Nat) (rs : List (List UInt8)), (endsL k rs).map (·.2) = rs
  | _, [] => rfl
  | k, p :: t => by simp [endsL, endsL_recs _ t]
theorem endOf_ends : ∀ (rs : List (List UInt8)) (k : Nat), (endsL k rs).foldl (fun _ p => p.1) k = k + (frms rs).length
  | [], k => by simp [endsL, frms]
  | p :: t, k => by simp [endsL, endOf_ends t, frms, frmL_len]; omega
/-- Frames, and behind them what is none: just the records. -/
theorem all_frms (rs : List (List UInt8)) (b : List UInt8) (h : ∀ p ∈ rs, p.length ≤ 60000) (hb : recL (frms rs ++ b) (frms rs).length = none) :
    (scanL (frms rs ++ b) ((frms rs ++ b).length + 1) 0).map (·.2) = rs ∧ endOf (scanL (frms rs ++ b) ((frms rs ++ b).length + 1) 0) = (frms rs).length := by
  have hl : rs.length ≤ (frms rs).length := by
    clear h hb
    induction rs with
    | nil => simp
    | cons p t ih => simp [frms, frmL_len]; omega
  obtain ⟨f, hf⟩ : ∃ f, (frms rs ++ b).length + 1 = f + rs.length := ⟨(frms rs ++ b).length + 1 - rs.length, by simp; omega⟩
  have := scanL_frms rs [] b f h
  simp only [List.nil_append, List.length_nil, Nat.zero_add] at this
  rw [hf, this, scanL_none _ _ hb, List.append_nil]
  exact ⟨endsL_recs _ _, by have := endOf_ends rs 0; simpa [endOf] using this⟩
theorem all_just (rs : List (List UInt8)) (h : ∀ p ∈ rs, p.length ≤ 60000) :
    (scanL (frms rs) ((frms rs).length + 1) 0).map (·.2) = rs ∧ endOf (scanL (frms rs) ((frms rs).length + 1) 0) = (frms rs).length := by
  have := all_frms rs [] h (recL_short _ _ (by simp))
  simpa using this
theorem all_first (F : List UInt8) (hF : F = frmL [1]) (v : Value) (w : World) (hv : Rd w v (F ++ [9])) (ht : Tab w) :
    Calls Tryd.prog 10 #[v] w fun e w' => ∃ a c, e = .returned (.tuple #[.slice a 1 c, .int .i64 7]) ∧ Below w.heap.size w w' := by
  have hl : F.length = 7 := by rw [hF, frmL_len]; rfl
  have hfr : frms [[1]] = F := by simp [frms, hF]
  have hall := all_frms [[1]] [9] (by simp) (by rw [hfr]; exact recL_short _ _ (by simp))
  rw [hfr, hl] at hall
  refine (all_any v (F ++ [9]) w hv ht (by simp; omega)).mono ?_
  rintro e w4 ⟨v4, rfl, ⟨vs, hrow, he⟩, hb4⟩
  have hvl : vs.length = 1 := by rw [he.len, hall.1]; rfl
  rw [hvl] at hrow
  rw [hall.2]
  obtain ⟨g4, c4, rfl⟩ := ownsRow_succ (k := 0) hrow
  exact ⟨_, _, rfl, hb4⟩
set_option maxRecDepth 100000 in
set_option maxHeartbeats 2000000 in
theorem first_any (w : World) (ht : Tab w) : Calls Tryd.prog 6 #[] w fun e w' => e = .returned (.bool true) ∧ Below w.heap.size w w' := by
  have HT := Lib.hid ht
  clear ht
  have hone : Rd (w.alloc (.cells #[.int .u8 1] 5)) (.slice (some ⟨w.heap.size, 0, none⟩) 1 1) [1] := Rd.one 5 w 1 1 rfl
  have hb0 := below_alloc w (.cells #[.int .u8 1] 5)
  have C1 := Lib.hid (fput_ok _ [1] _ hone (HT.out.below hb0 (Nat.le_refl _)) (by decide))
  obtain ⟨F, hF⟩ : ∃ F, F = frmL [1] := ⟨_, rfl⟩
  have hFl : F.length = 7 := by rw [hF, frmL_len]; rfl
  rw [← hF] at C1
  have HF := Lib.hid hF
  have HB0 := Lib.hid hb0
  clear hF hone hb0
  go_enter Tryd.func6, Tryd.ntmps6
  go_wp2_with fail
  refine C1.out.mono ?_
  rintro e w1 ⟨v, rfl, hown, hb1⟩
  have HB1 : Hid (Below w.heap.size w w1) := Lib.hid (HB0.out.trans (hb1.mono HB0.out.size))
  have HO := Lib.hid hown
  have C2 := Lib.hid (copy_bytes v F w1 hown.rd (by omega))
  obtain ⟨va, vc, rfl, _⟩ := hown.rd
  rw [hFl] at C2 HO ⊢
  clear hown hb1 C1
  go_wp2_with fail
  refine C2.out.mono ?_
  rintro e w2 ⟨y, rfl, hy, hb2⟩
  have HB2 : Hid (Below w.heap.size w w2) := Lib.hid (HB1.out.trans (hb2.mono HB1.out.size))
  have HSZ := Lib.hid hb2.size
  have HY := Lib.hid hy
  obtain ⟨ya, yc, rfl, _⟩ := hy.rd
  rw [hFl] at HY ⊢
  clear hy hb2 C2
  go_wp2_with (at_builtin; refine hold ?_)
  intro _
  refine bt.append1 rfl _ _ rfl w1.heap.size _ F 9 9 rfl HY.out rfl rfl (by omega) HSZ.out ?_
  intro v3 w3 h3 hg3
  have hb3 := HY.out.grows hg3 (Nat.le_refl _) HSZ.out
  have HB3 : Hid (Below w.heap.size w w3) := Lib.hid (HB2.out.trans (hb3.mono HB1.out.size))
  have HC3 := Lib.hid (all_first F HF.out v3 w3 h3.rd (HT.out.below HB3.out (Nat.le_refl _)))
  obtain ⟨b3, c3, rfl, _⟩ := h3.rd
  have hn3 : (F ++ [9]).length = 8 := by rw [List.length_append, hFl]; rfl
  rw [hn3] at HC3 ⊢
  clear h3 hg3 hb3 hn3
  go_wp2_with fail
  refine HC3.out.mono ?_
  rintro e w4 ⟨a4, c4, rfl, hb4⟩
  have HB4 : Hid (Below w.heap.size w w4) := Lib.hid (HB3.out.trans (hb4.mono HB3.out.size))
  clear HC3 hb4
  go_wp2_with fail
  go_ret
  exact ⟨rfl, HB4.out⟩
end Go.Proofs.YtainkmbjllklaaaDoor
