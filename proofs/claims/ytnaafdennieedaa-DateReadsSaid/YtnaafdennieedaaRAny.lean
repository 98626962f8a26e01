/- Layer 5: hblref1.Any. -/
import Derived.Test.YtnaafdennieedaaRMail
namespace Go.Proofs.Ytnaafdennieedaa
open Go.RowKit

set_option maxHeartbeats 1600000 in
theorem rany_any (t : List UInt8) (w : World) (hl : t.length ≤ 100000) : Calls Try.prog 14 #[str t] w fun e w' => e = twoE (if (netR t).2 = 4 then mailR t else netR t) ∧ Below w.heap.size w w' := by
  have CN := Lib.hid (fun W => rnet_any t W (by omega))
  have CM := Lib.hid (fun W => rmail_any t W hl)
  rw [mail_ref]
  obtain ⟨a, ha⟩ : ∃ a, a = netR t := ⟨_, rfl⟩
  obtain ⟨b, hb⟩ : ∃ b, b = rmailR t := ⟨_, rfl⟩
  rw [← ha] at CN ⊢
  rw [← hb] at CM ⊢
  clear ha hb hl
  obtain ⟨a1, a2⟩ := a
  dsimp only
  by_cases h4 : a2 = 4
  · rw [if_pos h4]
    have q4 : ((a2 : Int) == 4) = true := by rw [h4]; rfl
    clear h4
    go_enter Try.func14, Try.ntmps14
    go_wp2_with fail
    refine (CN.out _).mono ?_
    rintro e w1 ⟨rfl, hb1⟩
    have HB1 := Lib.hid hb1
    clear hb1
    unfold twoE
    go_wp2_with fail
    refine (CM.out _).mono ?_
    rintro e w2 ⟨rfl, hb2⟩
    have HB2 := Lib.hid (HB1.out.trans (hb2.mono HB1.out.size))
    clear hb2
    unfold twoE
    go_wp2_with fail
    go_ret2
    exact ⟨rfl, HB2.out⟩
  · rw [if_neg h4]
    have q4 : ((a2 : Int) == 4) = false := by simpa using h4
    clear h4
    go_enter Try.func14, Try.ntmps14
    go_wp2_with fail
    refine (CN.out _).mono ?_
    rintro e w1 ⟨rfl, hb1⟩
    have HB1 := Lib.hid hb1
    clear hb1
    unfold twoE
    go_wp2_with fail
    go_ret2
    exact ⟨rfl, HB1.out⟩
end Go.Proofs.Ytnaafdennieedaa
