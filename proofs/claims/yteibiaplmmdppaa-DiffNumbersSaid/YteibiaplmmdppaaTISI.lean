/- Maps in order, omap[string,int]: a map with its bounds. -/
import Derived.Test.YteibiaplmmdppaaMapSI
namespace Go.Proofs.Yteibiaplmmdppaa
open Go.RowKit

structure TISI (W : World) (b k : Nat) (t : Tr) : Prop where
  mp : MP W b t
  ws : WS KSSI VSSI t
  rs : Ris (prs t)
  ht : ht t ≤ k
  len : (prs t).length ≤ k
theorem TISI.below {W W' : World} {b k : Nat} {t : Tr} (h : TISI W b k t) (hb : Below W.heap.size W W') : TISI W' b k t := ⟨h.mp.below hb, h.ws, h.rs, h.ht, h.len⟩
theorem TISI.nil {W : World} {b : Nat} (h : MP W b .nil) : TISI W b 0 .nil := ⟨h, trivial, trivial, Nat.le_refl _, Nat.le_refl _⟩
theorem TISI.put {W W' : World} {b k : Nat} {t : Tr} (h : TISI W b k t) {x v : Value} (hx : KSSI x) (hv : VSSI v) (hm : MP W' b (putT x v t)) : TISI W' b (k + 1) (putT x v t) ∧ prs (putT x v t) = insL x v (prs t) := by
  have hw := WS.put hx hv h.ws
  have hp := prs_put ordSI (x := v) hx h.ws h.rs
  refine ⟨⟨hm, hw.1, by rw [hp]; exact (ris_ins ordSI hx (fun p hp => (ws_keys h.ws p hp).1) h.rs).1, by have := h.ht; have := hw.2; omega, ?_⟩, hp⟩
  rw [len_put]
  have := h.len
  split <;> omega
/-- A map that another one's turn leaves. -/
theorem TISI.only {W W' : World} {b k c j : Nat} {t u : Tr} (h : TISI W b k t) (hc : TISI W c j u) (ho : Only c W W') (hne : b ≠ c) : TISI W' b k t := by
  obtain ⟨x, y, T, hx⟩ := hc.mp.two
  exact ⟨h.mp.only hx ho hne, h.ws, h.rs, h.ht, h.len⟩
end Go.Proofs.Yteibiaplmmdppaa
