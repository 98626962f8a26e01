/- Layer 5: the document's zone. -/
import Derived.Test.YtnaafdennieedaaRPlace
namespace Go.Proofs.Ytnaafdennieedaa
open Go.RowKit

/-- What the document's zone tells. -/
def rzF (z : List UInt8) : Int × Bool :=
  if z.length = 5 ∧ (pk z 0 = 43 ∨ pk z 0 = 45) then
    if roffB (rdgR z 1 2) (rdgR z 3 2) = true then (offV (pk z 0) (rdgR z 1 2) (rdgR z 3 2), true) else (0, false)
  else match zoneV z with
    | some v => (v, true)
    | none => (0, false)
def RzPost (r : Int × Bool) (w : World) (e : Ending) (w' : World) : Prop := e = .returned (.tuple #[.int .i64 r.1, .bool r.2]) ∧ ∃ n, w' = w.drewN n
set_option maxHeartbeats 1600000 in
theorem rzone_sign (z : List UInt8) (w : World) (h5 : z.length = 5) (hs : pk z 0 = 43 ∨ pk z 0 = 45) : Calls Try.prog 32 #[str z] w (RzPost (rzF z) w) := by
  unfold rzF
  rw [if_pos ⟨h5, hs⟩]
  have C1 : Hid (∀ W, Calls Try.prog 31 #[str z, .int .i64 1, .int .i64 2] W fun e w' => e = .returned (.int .i64 (rdgR z 1 2)) ∧ w' = W) := Lib.hid (fun W => rdigits_any z 1 2 W (by omega) (by omega) (by omega))
  have C2 : Hid (∀ W, Calls Try.prog 31 #[str z, .int .i64 3, .int .i64 2] W fun e w' => e = .returned (.int .i64 (rdgR z 3 2)) ∧ w' = W) := Lib.hid (fun W => rdigits_any z 3 2 W (by omega) (by omega) (by omega))
  have h50 : 0 < z.length := by omega
  obtain ⟨a, ha⟩ : ∃ a, a = rdgR z 1 2 := ⟨_, rfl⟩
  obtain ⟨b, hb⟩ : ∃ b, b = rdgR z 3 2 := ⟨_, rfl⟩
  obtain ⟨c, hc⟩ : ∃ c, c = pk z 0 := ⟨_, rfl⟩
  rw [← ha] at C1
  rw [← hb] at C2
  rw [← ha, ← hb, ← hc]
  rw [← hc] at hs
  have hgc : (ByteArray.mk z.toArray)[0]'(by simpa [ByteArray.size] using h50) = c := by rw [hc, pk_lt z 0 h50]; rfl
  have l5 : ((z.length : Int) == 5) = true := by rw [h5]; rfl
  have l0 : (0 : Int) < (z.length : Int) := by omega
  have hn : (((c.toNat : Int) == 43) = true) ∨ (((c.toNat : Int) == 43) = false ∧ ((c.toNat : Int) == 45) = true) := by
    rcases hs with h | h
    · exact .inl (by rw [h]; rfl)
    · exact .inr ⟨by rw [h]; rfl, by rw [h]; rfl⟩
  have CO : Hid (∀ W, Calls Try.prog 36 #[.int .i64 a, .int .i64 b, .int .u8 (c.toNat : Int)] W fun e w' => e = .returned (.tuple #[.int .i64 (if roffB a b = true then (offV c a b, true) else (0, false)).1, .bool (if roffB a b = true then (offV c a b, true) else (0, false)).2]) ∧ w' = W) := by
    refine Lib.hid fun W => ?_
    by_cases g : roffB a b = true
    · rw [if_pos g]
      unfold roffB at g
      rw [decide_eq_true_eq] at g
      exact roff_yes c a b W g.1 g.2.1 g.2.2.1 g.2.2.2
    · rw [if_neg g]
      unfold roffB at g
      rw [decide_eq_true_eq] at g
      exact roff_no c a b W (by omega)
  obtain ⟨r, hr⟩ : ∃ r, r = (if roffB a b = true then (offV c a b, true) else (0, false)) := ⟨_, rfl⟩
  rw [← hr] at CO
  rw [← hr]
  clear ha hb hc hs h5 hr
  rcases hn with n0 | ⟨n0, n1⟩
  all_goals
    go_enter Try.func32, Try.ntmps32
    go_wp2_with fail
    go_quiet ((first
      | (go_at_call 31; with_reducible exact Calls.quiet_of_same (C1.out _))
      | (go_at_call 31; with_reducible exact Calls.quiet_of_same (C2.out _))
      | (go_at_call 36; with_reducible exact Calls.quiet_of_same (CO.out _))))
    go_wp2_with fail
    go_ret2
    exact ⟨rfl, _, rfl⟩
set_option maxHeartbeats 3200000 in
theorem rzone_word (z : List UInt8) (w : World) (_hl : z.length ≤ 140737488355328) (hs : ¬ (z.length = 5 ∧ (pk z 0 = 43 ∨ pk z 0 = 45))) : Calls Try.prog 32 #[str z] w (RzPost (rzF z) w) := by
  unfold rzF
  rw [if_neg hs]
  cases hz : zoneV z with
  | some v =>
    have hcs := zone_cases z v hz
    clear hz hs _hl
    rcases hcs with ⟨rfl, rfl⟩ | ⟨rfl, rfl⟩ | ⟨rfl, rfl⟩ | ⟨rfl, rfl⟩ | ⟨rfl, rfl⟩ | ⟨rfl, rfl⟩ | ⟨rfl, rfl⟩ | ⟨rfl, rfl⟩ | ⟨rfl, rfl⟩ | ⟨rfl, rfl⟩ | ⟨rfl, rfl⟩
    all_goals
      go_enter Try.func32, Try.ntmps32
      go_wp2_with fail
      go_ret2
      exact ⟨rfl, 0, rfl⟩
  | none =>
    have hno := noZ_of z hz
    unfold noZ at hno
    obtain ⟨g0, g1, g2, g3, g4, g5, g6, g7, g8, g9, g10⟩ := hno
    clear hz
    by_cases h5 : z.length = 5
    · have h50 : 0 < z.length := by omega
      obtain ⟨c, hc⟩ : ∃ c, c = pk z 0 := ⟨_, rfl⟩
      have hgc : (ByteArray.mk z.toArray)[0]'(by simpa [ByteArray.size] using h50) = c := by rw [hc, pk_lt z 0 h50]; rfl
      have l5 : ((z.length : Int) == 5) = true := by rw [h5]; rfl
      have l0 : (0 : Int) < (z.length : Int) := by omega
      rw [← hc] at hs
      have n0 : ((c.toNat : Int) == 43) = false := by
        rw [beq_eq_false_iff_ne]; intro h; exact hs ⟨h5, .inl (UInt8.toNat_inj.1 (by have : (43 : UInt8).toNat = 43 := rfl; omega))⟩
      have n1 : ((c.toNat : Int) == 45) = false := by
        rw [beq_eq_false_iff_ne]; intro h; exact hs ⟨h5, .inr (UInt8.toNat_inj.1 (by have : (45 : UInt8).toNat = 45 := rfl; omega))⟩
      clear hs hc h5
      go_enter Try.func32, Try.ntmps32
      go_wp2_with fail
      go_ret2
      exact ⟨rfl, 0, rfl⟩
    · have l5 : ((z.length : Int) == 5) = false := by rw [beq_eq_false_iff_ne]; omega
      clear hs h5
      go_enter Try.func32, Try.ntmps32
      go_wp2_with fail
      go_ret2
      exact ⟨rfl, 0, rfl⟩
theorem rzone_any (z : List UInt8) (w : World) (hl : z.length ≤ 140737488355328) : Calls Try.prog 32 #[str z] w (RzPost (rzF z) w) := by
  by_cases hs : z.length = 5 ∧ (pk z 0 = 43 ∨ pk z 0 = 45)
  · exact rzone_sign z w hs.1 hs.2
  · exact rzone_word z w hl hs
end Go.Proofs.Ytnaafdennieedaa
