/- A store of versions of string: a key's chain put; add, Put, Kill, Get. -/
import Derived.Test.YtdlacjdddjebgaaVStVS
namespace Go.Proofs.Ytdlacjdddjebgaa
open Go.RowKit

/-- What a put of a chain may turn. -/
def PutFVS (mb : Nat) (v : Value) (i : Nat) : Prop := i = mb ∨ v.ownBlock = some i
theorem valSVS_blk {S : ChsVS} {s mb : Nat} {key : List UInt8} {i : Nat} (h : PutFVS mb (valSVS key S) i) : BlkVS s mb S i := by
  rcases h with rfl | h
  · exact .inr (.inl rfl)
  · unfold valSVS at h
    cases e : getB key S with
    | none => rw [e] at h; simp [Value.ownBlock] at h
    | some y => rw [e] at h; exact .inr (.inr ⟨_, getB_mem e, h⟩)
theorem valSVS_other {W : World} {B s mb : Nat} {t : Tr} {S : ChsVS} {cnt low : Int} {k : Nat} (h : StVS W B s mb t S cnt low k) {key : List UInt8} {x : List UInt8 × ChVS} (hx : x ∈ S) (hne : x.1 ≠ key) {i : Nat} (hi : x.2.1.ownBlock = some i) : (valSVS key S).ownBlock ≠ some i := by
  intro hv
  unfold valSVS at hv
  cases e : getB key S with
  | none => rw [e] at hv; simp [Value.ownBlock] at hv
  | some y =>
    rw [e] at hv
    have hm := getB_mem e
    have hsym : ∀ a b : List UInt8 × ChVS, (∀ b', a.2.1.ownBlock = some b' → b.2.1.ownBlock ≠ some b') → (∀ b', b.2.1.ownBlock = some b' → a.2.1.ownBlock ≠ some b') := fun a b h b' h1 h2 => h b' h2 h1
    exact pairs_at hsym h.ap x hx (key, y) hm (fun e => hne (by rw [e])) i hi hv
theorem putSVS_any {W0 W7 : World} {B s mb : Nat} {t : Tr} {S : ChsVS} {cnt low : Int} {k : Nat} (h : StVS W0 B s mb t S cnt low k) (hk : k ≤ 1000000) (key : List UInt8) (l' : List VerVS) (g n cap : Nat)
    (ho : W7.ownsRow B 65 3 (.slice (some ⟨g, 0, none⟩) n cap) l'.length (l'.map cellsVS).flatten) (hf : Frm (fun i => (valSVS key S).ownBlock = some i) W0 W7) (hr : RisT (timesVS l')) (hl : l'.length ≤ k + 1) (hg : (valSVS key S).ownBlock = some g ∨ W0.heap.size ≤ g) :
    Calls Try.prog 46 #[.pointer (some ⟨mb, 0, none⟩), str key, .slice (some ⟨g, 0, none⟩) n cap] W7 fun e W8 => e = .returned (.bool (newT (str key) t)) ∧
      StVS W8 B s mb (putT (str key) (.slice (some ⟨g, 0, none⟩) n cap) t) (insB key (.slice (some ⟨g, 0, none⟩) n cap, l') S) cnt low (k + 1) ∧ Frm (PutFVS mb (valSVS key S)) W0 W8 := by
  have hF : ∀ i, (valSVS key S).ownBlock = some i → ∃ x ∈ S, x.2.1.ownBlock = some i := by
    intro i hi
    rcases (valSVS_blk (s := s) (mb := mb) (key := key) (S := S) (.inr hi) : BlkVS s mb S i) with rfl | rfl | hx
    · exfalso
      unfold valSVS at hi
      cases e : getB key S with
      | none => rw [e] at hi; simp [Value.ownBlock] at hi
      | some y => rw [e] at hi; exact (h.apart (getB_mem e) hi).2 rfl
    · exfalso
      unfold valSVS at hi
      cases e : getB key S with
      | none => rw [e] at hi; simp [Value.ownBlock] at hi
      | some y => rw [e] at hi; exact (h.apart (getB_mem e) hi).1 rfl
    · exact hx
  have hF5 : ∀ i, (valSVS key S).ownBlock = some i → ∀ cs T z, W0.heap[i]? = some (.cells cs T z) → cs.size ≠ 5 := fun i hi => by
    obtain ⟨x, hx, h1⟩ := hF i hi
    exact h.five i (.inr (.inr ⟨x, hx, h1⟩))
  have hFm : ¬ (valSVS key S).ownBlock = some mb := fun hi => by obtain ⟨x, hx, h1⟩ := hF mb hi; exact (h.apart hx h1).1 rfl
  have hFs : ¬ (valSVS key S).ownBlock = some s := fun hi => by obtain ⟨x, hx, h1⟩ := hF s hi; exact (h.apart hx h1).2 rfl
  have hmp7 : MP W7 mb t := MP.frm hf hF5 hFm h.mp
  have hsl7 : s < W7.heap.size := Nat.lt_of_lt_of_le h.slt hf.size
  have hb7 : W7.heap[s]? = _ := (hf.block s h.slt hFs).trans h.box
  have hch : ∀ x ∈ S, x.1 ≠ key → W7.ownsRow B 65 3 x.2.1 x.2.2.length (x.2.2.map cellsVS).flatten := fun x hx hne => owns_frm (h.ch x hx) hf (fun i hi => valSVS_other h hx hne hi)
  have hprl : (prs t).length ≤ k := by rw [h.pr, List.length_map]; exact h.hk.2.1
  refine (mputVS_any mb (str key) (.slice (some ⟨g, 0, none⟩) n cap) t W7 hmp7 (keySVS key) ⟨_, _, _, rfl⟩ h.ws (by have := h.hk.1; omega) (by omega)).mono ?_
  rintro e W8 ⟨rfl, hm8, ho8, hb8⟩
  have f8 : Frm (fun i => i = mb) W7 W8 := Frm.of_only ho8 hb8 rfl
  obtain ⟨ws1, ws2⟩ := WS.put (K := KSVS) (V := VSVS) (keySVS key) (x := .slice (some ⟨g, 0, none⟩) n cap) ⟨_, _, _, rfl⟩ h.ws
  have nomb : ∀ {v : Value} {l : List VerVS} {i : Nat}, W7.ownsRow B 65 3 v l.length (l.map cellsVS).flatten → v.ownBlock = some i → ¬ i = mb := by
    intro v l i ho hi he
    subst he
    obtain ⟨T', o, hb, _⟩ := hmp7
    obtain ⟨cap, hcap⟩ := owns_size ho hi hb
    simp at hcap
    omega
  have hlen : ((insB key (.slice (some ⟨g, 0, none⟩) n cap, l') S)).length ≤ k + 1 := Nat.le_trans (insB_len _ _ _) (Nat.succ_le_succ h.hk.2.1)
  refine ⟨rfl, ⟨?_, hm8, ws1, ?_, insB_ris h.rs, ?_, ?_, ?_, ⟨by have := h.hk.1; omega, hlen, ?_⟩, h.lo⟩, (hf.mono (fun i _ hi => .inr hi)).trans f8 (fun i _ hi => .inl hi)⟩
  · rw [f8.block s hsl7 h.ne]; exact hb7
  · rw [prs_put ordVS (keySVS key) h.ws h.ris, h.pr]
    exact ins_map Prod.fst key ((.slice (some ⟨g, 0, none⟩) n cap, l') : ChVS) S
  · intro x hx
    rcases insB_mem h.rs x hx with rfl | ⟨hx, hne⟩
    · exact owns_frm ho f8 (fun i hi => nomb ho hi)
    · exact owns_frm (hch x hx hne) f8 (fun i hi => nomb (hch x hx hne) hi)
  · refine insB_pairs (fun a b hab b' h1 h2 => hab b' h2 h1) h.rs h.ap (fun x hx hne b hb => ?_)
    intro hxb
    have hgb : g = b := by simpa [Value.ownBlock] using hb
    subst hgb
    rcases hg with hg | hg
    · exact valSVS_other h hx hne hxb hg
    · have := (World.ownsRow.lt (h.ch x hx) g hxb).2
      omega
  · intro x hx
    rcases insB_mem h.rs x hx with rfl | ⟨hx, _⟩
    · exact hr
    · exact h.tr x hx
  · intro x hx
    rcases insB_mem h.rs x hx with rfl | ⟨hx, _⟩
    · exact hl
    · exact Nat.le_succ_of_le (h.hk.2.2 x hx)
end Go.Proofs.Ytdlacjdddjebgaa
