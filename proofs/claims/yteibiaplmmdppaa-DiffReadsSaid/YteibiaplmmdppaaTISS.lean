/- Maps in order, omap[string,string]: a map with its bounds. -/
import Derived.Test.YteibiaplmmdppaaMapSS
namespace Go.Proofs.Yteibiaplmmdppaa
open Go.RowKit

structure TISS (W : World) (b k : Nat) (t : Tr) : Prop where
  mp : MP W b t
  ws : WS KSSS VSSS t
  rs : Ris (prs t)
  ht : ht t ≤ k
  len : (prs t).length ≤ k
theorem TISS.below {W W' : World} {b k : Nat} {t : Tr} (h : TISS W b k t) (hb : Below W.heap.size W W') : TISS W' b k t := ⟨h.mp.below hb, h.ws, h.rs, h.ht, h.len⟩
theorem TISS.nil {W : World} {b : Nat} (h : MP W b .nil) : TISS W b 0 .nil := ⟨h, trivial, trivial, Nat.le_refl _, Nat.le_refl _⟩
theorem TISS.put {W W' : World} {b k : Nat} {t : Tr} (h : TISS W b k t) {x v : Value} (hx : KSSS x) (hv : VSSS v) (hm : MP W' b (putT x v t)) : TISS W' b (k + 1) (putT x v t) ∧ prs (putT x v t) = insL x v (prs t) := by
  have hw := WS.put hx hv h.ws
  have hp := prs_put ordSS (x := v) hx h.ws h.rs
  refine ⟨⟨hm, hw.1, by rw [hp]; exact (ris_ins ordSS hx (fun p hp => (ws_keys h.ws p hp).1) h.rs).1, by have := h.ht; have := hw.2; omega, ?_⟩, hp⟩
  rw [len_put]
  have := h.len
  split <;> omega
/-- A map that another one's turn leaves. -/
theorem TISS.only {W W' : World} {b k c j : Nat} {t u : Tr} (h : TISS W b k t) (hc : TISS W c j u) (ho : Only c W W') (hne : b ≠ c) : TISS W' b k t := by
  obtain ⟨x, y, T, hx⟩ := hc.mp.two
  exact ⟨h.mp.only hx ho hne, h.ws, h.rs, h.ht, h.len⟩
end Go.Proofs.Yteibiaplmmdppaa
