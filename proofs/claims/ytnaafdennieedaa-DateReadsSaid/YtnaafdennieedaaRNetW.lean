/- Layer 5: the document's Net is date's. -/
import Derived.Test.YtnaafdennieedaaRNetYb
namespace Go.Proofs.Ytnaafdennieedaa
open Go.RowKit

theorem rnet_any (t : List UInt8) (w : World) (hl : t.length ≤ 140737488355328) : Calls Try.prog 12 #[str t] w fun e w' => e = twoE (netR t) ∧ Below w.heap.size w w' := by
  cases H : rhdB t with
  | false =>
    have h : netR t = (0, 4) := by
      refine net_no t ?_
      rintro ⟨h20, hC, _⟩
      obtain ⟨_, k4, k7, k10, k13, k16, _⟩ := hC
      unfold rhdB at H
      rw [decide_eq_false_iff_not] at H
      simp only [List.mem_cons, List.not_mem_nil, or_false] at k4 k7 k10 k13 k16
      exact H ⟨h20, k4, k7, k10, k13, k16⟩
    rw [h]
    exact (rnet_head t w H).mono fun _ _ h => ⟨h.1, by rw [h.2]; exact Below.refl _ _⟩
  | true =>
    have H' := H
    unfold rhdB at H'
    rw [decide_eq_true_eq] at H'
    obtain ⟨h20, k4, k7, k10, k13, k16⟩ := H'
    cases HG : rngB t with
    | false =>
      have h : netR t = (0, 4) := by
        refine net_no t ?_
        rintro ⟨_, hC, _⟩
        obtain ⟨_, _, _, _, _, _, r⟩ := hC
        unfold rngB at HG
        rw [decide_eq_false_iff_not] at HG
        exact HG r
      rw [h]
      exact (rnet_digs t w hl H HG).mono fun _ _ h => ⟨h.1, by rw [h.2]; exact Below.refl _ _⟩
    | true =>
      have h : netR t = if frE t = 20 then (0, 4) else rnetR t := by
        have HG' := HG
        unfold rngB at HG'
        rw [decide_eq_true_eq] at HG'
        by_cases hf : frE t = 20
        · rw [if_pos hf]
          exact net_no t (fun x => x.2.2 hf)
        · rw [if_neg hf]
          refine net_yes t h20 ⟨by omega, ?_, ?_, ?_, ?_, ?_, HG'⟩ hf
          · rw [k4]; decide
          · rw [k7]; decide
          · rcases k10 with h | h <;> rw [h] <;> decide
          · rw [k13]; decide
          · rw [k16]; decide
      rw [h]
      by_cases h19 : pk t 19 = 46
      · exact rnet_yb t w hl H HG h19
      · exact rnet_ya t w hl H HG h19
end Go.Proofs.Ytnaafdennieedaa
