/- What a call of a store may turn: the blocks of its own: trees. -/
import Derived.Test.YtdlacjdddjebgaaTrMap
import Derived.Test.YtdlacjdddjebgaaFrm
namespace Go.Proofs.Ytdlacjdddjebgaa
open Go.RowKit

theorem Frm.of_only {F : Nat → Prop} {w w' : World} {b B : Nat} (h : Only b w w') (hb : Below B w w') (hF : F b) : Frm F w w' := ⟨hb.os, hb.tape, hb.output, h.1, fun k hk hn => h.2 k hk (fun e => hn (e ▸ hF))⟩
/-- A tree stands when blocks turn that are no nodes. -/
theorem TP.frm {F : Nat → Prop} {w w' : World} (hf : Frm F w w') (h5 : ∀ k, F k → ∀ cs T z, w.heap[k]? = some (.cells cs T z) → cs.size ≠ 5) : ∀ {o : Option Addr} {t : Tr}, TP w o t → TP w' o t
  | _, .nil, h => h
  | _, .node _ _ _ _ _, h => by
    obtain ⟨g, T, ol, or, rfl, hc, hl, hr⟩ := h
    refine ⟨g, T, ol, or, rfl, ?_, TP.frm hf h5 hl, TP.frm hf h5 hr⟩
    rw [hf.block g (Array.getElem?_eq_some_iff.1 hc).1 (fun hF => h5 g hF _ _ _ hc rfl)]
    exact hc
theorem MP.frm {F : Nat → Prop} {w w' : World} {b : Nat} {t : Tr} (hf : Frm F w w') (h5 : ∀ k, F k → ∀ cs T z, w.heap[k]? = some (.cells cs T z) → cs.size ≠ 5) (hb : ¬ F b) (h : MP w b t) : MP w' b t := by
  have hlt := h.lt
  obtain ⟨T, o, h, ht⟩ := h
  exact ⟨T, o, by rw [hf.block b hlt hb]; exact h, TP.frm hf h5 ht⟩
end Go.Proofs.Ytdlacjdddjebgaa
