/- frame.Scan, what it ranges over. -/
import Derived.Test.YtainkmbjllklaaaDoorFRec
import Derived.Test.YtainkmbjllklaaaDoorRangeV
import Derived.LoopNIn
import Derived.LoopIn
namespace Go.Proofs.YtainkmbjllklaaaDoor
open Go.RowKit
attribute [local go_sem] Oper.semAt_some wide_fn wide_depth

/-- The records from a place on, each with the place behind it. -/
def scanL (l : List UInt8) : Nat → Nat → List (Nat × List UInt8)
  | 0, _ => []
  | f + 1, at_ => match recL l at_ with
    | none => []
    | some p => (at_ + 6 + p.length, p) :: scanL l f (at_ + 6 + p.length)
theorem recL_len {l p : List UInt8} {at_ : Nat} (h : recL l at_ = some p) : at_ + 6 + p.length ≤ l.length ∧ p.length ≤ 60000 := by
  unfold recL at h
  split at h
  · cases h
  · split at h
    · cases h
    · split at h
      · simp only [Option.some.injEq] at h
        subst h
        rw [win_length _ _ _ (by omega)]
        omega
      · cases h
/-- What comes: the place, and a slice of its own that reads as the record. -/
def ScanR (n0 : Nat) (x : Nat × List UInt8) (args : Array Value) (W : World) : Prop := ∃ v, args = #[.int .i64 (x.1 : Int), v] ∧ Own 5 W n0 v x.2
/-- What Scan needs of a world. -/
def ScanOk (n0 B : Nat) (v0 : Value) (l : List UInt8) (W : World) : Prop := n0 ≤ W.heap.size ∧ Boxed W B 22 v0 ∧ Rd W v0 l ∧ Tab W
theorem grown_below {w w' : World} (h : Below w.heap.size w w') (row : Option Nat := none) : w.grownBy w' row := ⟨h.1, h.2, h.3, h.size, fun k hk _ => h.block k hk⟩
set_option maxRecDepth 100000 in
set_option maxHeartbeats 2000000 in
theorem scans_any {Tw Wr : TypeId → Prop} {n0 B : Nat} {v0 : Value} {l : List UInt8} {W : World} (hl : l.length ≤ 100000000) :
    SeqsV Tw Tryd.prog 22 #[.pointer (some ⟨B, 0, none⟩)] (ScanR n0) (ScanOk n0 B v0 l) Wr (scanL l (l.length + 1) 0) W := by
  intro l0 J Jx hJ hJx hOk hY h0
  refine (callsIn_wide (n := 9)).1 ?_
  refine callsIn_of_wp Tryd.func22 rfl trivial ?_ rfl
  simp only [Tryd.ntmps22, List.size_toArray, List.length_cons, List.length_nil, Nat.reduceAdd, Nat.reduceSub, Array.replicate_succ, Array.replicate_zero, List.push_toArray, List.append_toArray, List.nil_append, List.cons_append]
  gi_wp2
  gi_loopw [3] (fun av wr => ∃ (pre : List (Nat × List UInt8)) (k f : Nat), av = .int .i64 (k : Int) ∧ k ≤ l.length ∧ l.length - k < f ∧ J pre wr ∧ scanL l (l.length + 1) 0 = pre ++ scanL l f k) (fun av _ => l.length - (intOf av).toNat)
  case atStart => exact ⟨[], 0, l.length + 1, rfl, Nat.zero_le _, by omega, h0, rfl⟩
  case round =>
    clear h0
    obtain ⟨pre, k, f, rfl, hk, hf, hj, hx⟩ := hrel
    obtain ⟨hs, hb, hrd, htab⟩ := hOk pre wr hj
    have c1 := hb.cell
    have CR := Lib.hid (callsIn_wide (n := 8).2 (record_any v0 l k wr hrd htab hk hl))
    obtain ⟨f, rfl⟩ : ∃ f', f = f' + 1 := ⟨f - 1, by omega⟩
    have HX := Lib.hid hx
    obtain ⟨va, vn, vc, rfl⟩ : ∃ va vn vc, v0 = .slice va vn vc := by obtain ⟨a, c, e, _⟩ := hrd; exact ⟨a, _, c, e⟩
    clear hb hrd htab hx
    gi_wp2_with fail
    refine CR.out.mono ?_
    rintro e w2 ⟨v, z, rfl, hb2, hz⟩
    have hj2 : J pre w2 := hJ.plain _ _ _ none hj (grown_below hb2) (fun r e => by cases e)
    have hs2 := hb2.size
    clear CR
    cases hr : recL l k with
    | none =>
      rw [hr] at hz
      dsimp only at hz
      subst hz
      have e1 : scanL l (l.length + 1) 0 = pre := by rw [HX.out]; simp [scanL, hr]
      clear hY
      gi_wp2_with fail
      exact bodyPost_ret (results_none rfl _ _ _) rfl ⟨⟨_, rfl⟩, .inl (by rw [e1]; exact hj2)⟩
    | some p =>
      rw [hr] at hz
      obtain ⟨rfl, hown⟩ := hz
      obtain ⟨hp1, hp2⟩ := recL_len hr
      have e1 : scanL l (l.length + 1) 0 = pre ++ (k + 6 + p.length, p) :: scanL l f (k + 6 + p.length) := by rw [HX.out]; simp [scanL, hr]
      obtain ⟨a1, c1', rfl, _⟩ := id hown.rd
      have hy0 := hY pre (k + 6 + p.length, p) #[.int .i64 ((k + 6 + p.length : Nat) : Int), .slice a1 p.length c1'] w2 hj2 ⟨_, rfl, hown.mono hs⟩ ⟨_, e1⟩ 8
      have ek : ((k + 6 + p.length : Nat) : Int) = (k : Int) + (6 + (p.length : Int)) := by omega
      rw [ek] at hy0
      obtain ⟨fn, tmps, assign, body, hy, hR⟩ := hy0
      have HE := Lib.hid e1
      clear e1 hY ek hr
      gi_wp2_with (refine hR.mono ?_; clear hR; rintro e W3 ⟨hk3, ⟨rfl, hj3⟩ | ⟨rfl, hx3⟩⟩)
      · go_roundw
        case rel => exact ⟨pre ++ [(k + 6 + p.length, p)], k + 6 + p.length, f, by rw [show ((k + 6 + p.length : Nat) : Int) = (k : Int) + (6 + (p.length : Int)) by omega], hp1, by omega, hj3, by rw [HE.out]; simp⟩
        case measure => simp [intOf]; omega
      · exact bodyPost_ret (results_none rfl _ _ _) rfl ⟨⟨_, rfl⟩, .inr ⟨pre ++ [(k + 6 + p.length, p)], ⟨scanL l f (k + 6 + p.length), by rw [HE.out]; simp⟩, hx3⟩⟩
end Go.Proofs.YtainkmbjllklaaaDoor
